package glob

import (
	"strings"
	"testing"
)

// unit is a byte of a pattern, or a backslash and the byte that it quotes.
type unit struct {
	b      byte
	quoted bool
}

// units is a pattern read from the front.
func units(p string) []unit {
	var l []unit
	for i := 0; i < len(p); i++ {
		if p[i] == '\\' && i+1 < len(p) {
			i++
			l = append(l, unit{p[i], true})
		} else {
			l = append(l, unit{p[i], false})
		}
	}
	return l
}

// is tells whether the unit is one of the bytes, and not quoted.
func (u unit) is(bytes string) bool {
	return !u.quoted && strings.IndexByte(bytes, u.b) >= 0
}

// slowSet splits units that begin with a [ into what stands in the set and what is behind it.
func slowSet(l []unit) (body, rest []unit, ok bool) {
	begin := 1
	if len(l) > 1 && l[1].is("!^") {
		begin = 2
	}
	for i := begin + 1; i < len(l); i++ {
		if l[i].is("]") {
			return l[1:i], l[i+1:], true
		}
	}
	return nil, nil, false
}

// slowHas tells whether a byte is one of what the set says.
func slowHas(body []unit, b byte) bool {
	if len(body) > 0 && body[0].is("!^") {
		return !slowAmong(body[1:], b)
	}
	return slowAmong(body, b)
}

// slowAmong tells whether a byte is one of the set's.
func slowAmong(body []unit, b byte) bool {
	if len(body) == 0 {
		return false
	}
	if len(body) >= 3 && body[1].is("-") {
		return body[0].b <= b && b <= body[2].b || slowAmong(body[3:], b)
	}
	return body[0].b == b || slowAmong(body[1:], b)
}

// slowFit is P3.1 unit by unit, each star tried with every number of bytes.
func slowFit(l []unit, s string) bool {
	if len(l) == 0 {
		return s == ""
	}
	if l[0].is("*") {
		return slowFit(l[1:], s) || s != "" && slowFit(l, s[1:])
	}
	if s == "" {
		return false
	}
	if l[0].is("?") {
		return slowFit(l[1:], s[1:])
	}
	if l[0].is("[") {
		if body, rest, ok := slowSet(l); ok {
			return slowHas(body, s[0]) && slowFit(rest, s[1:])
		}
	}
	return l[0].b == s[0] && slowFit(l[1:], s[1:])
}

// slowMatch is slowFit with the rule of the dot.
func slowMatch(p, s string) bool {
	if s != "" && s[0] == '.' {
		l := units(p)
		if len(l) == 0 || l[0].b != '.' {
			return false
		}
	}
	return slowFit(units(p), s)
}

// slowMagic looks for a unit that is more than itself.
func slowMagic(p string) bool {
	l := units(p)
	for i, u := range l {
		if u.is("*?") {
			return true
		}
		if u.is("[") {
			if _, _, ok := slowSet(l[i:]); ok {
				return true
			}
		}
	}
	return false
}

// slowPlain is the units' bytes.
func slowPlain(p string) string {
	var plain []byte
	for _, u := range units(p) {
		plain = append(plain, u.b)
	}
	return string(plain)
}

// allTexts is every text of at most most of the pieces.
func allTexts(pieces []string, most int) []string {
	all := []string{""}
	last := all
	for range most {
		var next []string
		for _, s := range last {
			for _, p := range pieces {
				next = append(next, s+p)
			}
		}
		all = append(all, next...)
		last = next
	}
	return all
}

// P3.1, over all short patterns and names.
func TestMatchShortTexts(t *testing.T) {
	names := allTexts([]string{".", "a", "b", "]", "[", "-", `\`, "!"}, 2)
	for _, p := range allTexts([]string{"*", "?", "[", "]", "!", "-", `\`, "a", "."}, 5) {
		for _, s := range names {
			if got, want := Match(p, s), slowMatch(p, s); got != want {
				t.Fatalf("Match(%q, %q) = %v, want %v", p, s, got, want)
			}
		}
	}
}

// P3.1, over all short patterns of stars, and longer names.
func TestMatchShortStars(t *testing.T) {
	names := allTexts([]string{"a", "b"}, 7)
	for _, p := range allTexts([]string{"*", "?", "a", "b"}, 5) {
		for _, s := range names {
			if got, want := Match(p, s), slowMatch(p, s); got != want {
				t.Fatalf("Match(%q, %q) = %v, want %v", p, s, got, want)
			}
		}
	}
}

// P3.1, over all short sets, held against each byte that could tell.
func TestMatchShortSets(t *testing.T) {
	for _, body := range allTexts([]string{"]", "!", "^", "-", `\`, "a", "c", "["}, 5) {
		p := "x[" + body + "]"
		for _, b := range []byte("]!^-\\ac[b.@z_") {
			s := "x" + string([]byte{b})
			if got, want := Match(p, s), slowMatch(p, s); got != want {
				t.Fatalf("Match(%q, %q) = %v, want %v", p, s, got, want)
			}
		}
	}
}

// P3.1, over all short patterns.
func TestMagicAndPlainShortTexts(t *testing.T) {
	for _, p := range allTexts([]string{"*", "?", "[", "]", "!", "^", "-", `\`, "a"}, 5) {
		if got, want := Magic(p), slowMagic(p); got != want {
			t.Fatalf("Magic(%q) = %v, want %v", p, got, want)
		}
		if got, want := Plain(p), slowPlain(p); got != want {
			t.Fatalf("Plain(%q) = %q, want %q", p, got, want)
		}
	}
}

// P3.2, over all short patterns: what is not Magic matches its Plain, and no other name.
func TestNotMagicMatchesItsPlainAlone(t *testing.T) {
	names := allTexts([]string{"[", "]", "!", `\`, "a", ".", "*"}, 3)
	for _, p := range allTexts([]string{"*", "[", "]", "!", `\`, "a", "."}, 5) {
		if Magic(p) {
			continue
		}
		plain := Plain(p)
		if !Match(p, plain) {
			t.Fatalf("%q does not match its plain %q", p, plain)
		}
		for _, s := range names {
			if s != plain && Match(p, s) {
				t.Fatalf("%q, whose plain is %q, matches %q", p, plain, s)
			}
		}
		for _, s := range []string{plain + "a", "a" + plain, p + "a"} {
			if s != plain && Match(p, s) {
				t.Fatalf("%q, whose plain is %q, matches %q", p, plain, s)
			}
		}
	}
}
