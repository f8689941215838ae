// Package words: words of a text.
package words

import (
	"iter"
	"strings"
)

// blank is narrower than what the library calls space: byte 13, say, is a word's.
func blank(b byte) bool {
	return b == 32 || b == 9 || b == 10
}

// each is the text's words, one by one.
func each(s string) iter.Seq[string] {
	return func(yield func(string) bool) {
		for rest := Left(s); rest != ""; {
			end := wordEnd(rest)
			if !yield(rest[:end]) {
				return
			}
			rest = Left(rest[end:])
		}
	}
}

// wordEnd is where the run of other bytes that s begins with ends.
func wordEnd(s string) int {
	end := 0
	for end < len(s) && !blank(s[end]) {
		end++
	}
	return end
}

// Split is a text's words.
func Split(s string) []string {
	var l []string
	for w := range each(s) {
		l = append(l, w)
	}
	return l
}

// Join is words as a text.
func Join(l []string) string {
	return strings.Join(l, " ")
}

// Strip is a text's words alone.
func Strip(s string) string {
	return Join(Split(s))
}

// Trim is a text without blanks at its ends.
func Trim(s string) string {
	s = Left(s)
	end := len(s)
	for end > 0 && blank(s[end-1]) {
		end--
	}
	return s[:end]
}

// Left is a text without blanks at its beginning.
func Left(s string) string {
	at := 0
	for at < len(s) && blank(s[at]) {
		at++
	}
	return s[at:]
}
