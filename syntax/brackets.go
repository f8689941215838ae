package syntax

import (
	"strings"

	"wainwright/api"
	"wainwright/table"
	"wainwright/words"
)

// brackets is the bytes that open, and those that shut what was opened last,
// whichever of them opened it.
type brackets struct {
	open, shut string
}

// outside is the place of the first such byte at which nothing is open; -1.
// A byte that shuts where nothing is open counts for nothing.
func (b brackets) outside(s string, asked byte) int {
	open := 0
	for i := range len(s) {
		switch {
		case open == 0 && s[i] == asked:
			return i
		case strings.IndexByte(b.open, s[i]) >= 0:
			open++
		case open > 0 && strings.IndexByte(b.shut, s[i]) >= 0:
			open--
		}
	}
	return -1
}

// reference is what a text between brackets is.
func (b brackets) reference(s string, deep int) api.Node {
	if name, args, ok := b.call(s); ok {
		return api.Node{Kind: api.Call, S: name, L: readAll(deep, args...)}
	}
	if name, from, to, ok := substitution(s); ok {
		return api.Node{Kind: api.Sub, L: readAll(deep, name, from, to)}
	}
	return api.Node{Kind: api.Ref, L: readAll(deep, s)}
}

// call is a function's name and arguments, if a text between brackets calls one.
func (b brackets) call(s string) (string, []string, bool) {
	end := nameEnd(s)
	rest := words.Left(s[end:])
	if len(rest) == len(s)-end {
		return "", nil, false
	}
	info, ok := table.Find(s[:end])
	if !ok {
		return "", nil, false
	}
	args := b.arguments(rest, info.Max)
	if len(args) < info.Min {
		panic(api.ErrFew)
	}
	return s[:end], args, true
}

// nameEnd is where the run of a function name's bytes that s begins with ends.
func nameEnd(s string) int {
	end := 0
	for end < len(s) && (s[end] == '-' || 'a' <= s[end] && s[end] <= 'z') {
		end++
	}
	return end
}

// arguments is a text cut at its commas, into at most so many; 0 bounds nothing.
func (b brackets) arguments(s string, most int) []string {
	var l []string
	for most == 0 || len(l) < most-1 {
		comma := b.outside(s, ',')
		if comma < 0 {
			break
		}
		l = append(l, s[:comma])
		s = s[comma+1:]
	}
	return append(l, s)
}

// substitution is the parts of a text between brackets, if it asks for one.
func substitution(s string) (name, from, to string, ok bool) {
	both := brackets{"({", ")}"}
	colon := both.outside(s, ':')
	if colon < 0 {
		return "", "", "", false
	}
	rest := s[colon+1:]
	equals := both.outside(rest, '=')
	if equals < 0 {
		return "", "", "", false
	}
	return s[:colon], rest[:equals], rest[equals+1:], true
}
