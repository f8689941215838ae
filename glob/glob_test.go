package glob

import (
	"strings"
	"testing"
)

type matchCase struct {
	name, p, s string
	want       bool
}

// checkMatch holds Match against cases that are written out by hand.
func checkMatch(t *testing.T, cases []matchCase) {
	t.Helper()
	for _, c := range cases {
		if got := Match(c.p, c.s); got != c.want {
			t.Errorf("%s: Match(%q, %q) = %v, want %v", c.name, c.p, c.s, got, c.want)
		}
	}
}

// P3.1: bytes that are themselves.
func TestMatchItself(t *testing.T) {
	checkMatch(t, []matchCase{
		{"empty and empty", "", "", true},
		{"empty and a name", "", "a", false},
		{"a name and empty", "a", "", false},
		{"the same", "abc", "abc", true},
		{"more", "abc", "abcd", false},
		{"less", "abc", "ab", false},
		{"another", "abc", "abd", false},
		{"case is kept", "abc", "aBc", false},
		{"a ] alone", "a]", "a]", true},
		{"! ^ - outside of a set", "!^-", "!^-", true},
		{"a slash", "a/b", "a/b", true},
		{"blanks", " \t\n", " \t\n", true},
		{"any bytes", "\x00\xff\xc2", "\x00\xff\xc2", true},
		{"no runes", "\xc3\xa9", "\xc3", false},
	})
}

// P3.1: no star, one and several.
func TestMatchStars(t *testing.T) {
	checkMatch(t, []matchCase{
		{"the document's example", "*.c", "a.c", true},
		{"the document's example, a dot", "*.c", ".c", false},
		{"another end", "*.c", "a.h", false},
		{"end not at the end", "*.c", "a.cc", false},
		{"end more than once", "*.c", "a.c.c", true},
		{"alone and empty", "*", "", true},
		{"alone and any", "*", "any thing/at all\x00\xff", true},
		{"at the end, nothing left", "a*", "a", true},
		{"at the end", "a*", "abc", true},
		{"at the end, another beginning", "a*", "ba", false},
		{"at the beginning", "*a", "cba", true},
		{"at the beginning, nothing left", "*a", "a", true},
		{"at the beginning, another end", "*a", "ab", false},
		{"between, nothing left", "a*c", "ac", true},
		{"between", "a*c", "abbc", true},
		{"between, the end not the first time", "a*bc", "abxbc", true},
		{"ends that would overlap", "ab*ba", "aba", false},
		{"ends that meet", "ab*ba", "abba", true},
		{"two", "*b*", "abc", true},
		{"two, not there", "*b*", "acc", false},
		{"two side by side", "a**c", "abc", true},
		{"two side by side, empty", "**", "", true},
		{"three side by side", "***a", "a", true},
		{"in order", "*a*b*c*", "xaxbxcx", true},
		{"not in order", "*a*b*c*", "xbxaxcx", false},
		{"each takes its own", "*a*a*", "xa", false},
		{"the later takes the last", "*ab*ab", "abxabyab", true},
		{"a middle that begins twice", "*aab*", "aaab", true},
		{"a last piece that begins twice", "x*aab", "xaaab", true},
		{"a slash is a byte", "*.c", "d/e.c", true},
	})
}

// P3.1: one byte, whichever.
func TestMatchOneByte(t *testing.T) {
	checkMatch(t, []matchCase{
		{"empty", "?", "", false},
		{"one", "?", "x", true},
		{"two", "?", "xy", false},
		{"two of two", "??", "xy", true},
		{"between", "a?c", "abc", true},
		{"between, nothing", "a?c", "ac", false},
		{"itself", "??", "??", true},
		{"a rune of two bytes", "?", "\u00e9", false},
		{"a rune's bytes", "??", "\u00e9", true},
		{"with a star", "*?", "", false},
		{"with a star, one", "?*", "x", true},
		{"at least two", "?*?", "x", false},
		{"at least two, there", "?*?", "xyz", true},
		{"behind a star", "*a?", "aaab", true},
		{"a dot not at the beginning", "a?b", "a.b", true},
	})
}

// P3.1: sets, those that begin with ! or ^ and those with a ] right at the beginning.
func TestMatchSets(t *testing.T) {
	checkMatch(t, []matchCase{
		{"one of", "[abc]", "b", true},
		{"none of", "[abc]", "d", false},
		{"empty", "[abc]", "", false},
		{"one byte alone", "[abc]", "ab", false},
		{"between", "x[ab]y", "xby", true},
		{"side by side", "[ab][cd]", "bc", true},
		{"side by side, the other way", "[ab][cd]", "cb", false},
		{"all but, another", "[!abc]", "d", true},
		{"all but, one of", "[!abc]", "b", false},
		{"all but, itself", "[!abc]", "!", true},
		{"all but by ^, another", "[^abc]", "d", true},
		{"all but by ^, one of", "[^abc]", "b", false},
		{"all but asks for a byte", "[!a]", "", false},
		{"a ! later is one of them", "[a!]", "!", true},
		{"a ! later does not turn", "[a!]", "b", false},
		{"a ^ later is one of them", "[a^]", "^", true},
		{"a second ! is one of them", "[!!]", "!", false},
		{"a second !, another", "[!!]", "a", true},
		{"a ^ behind !", "[!^]", "^", false},
		{"a ! behind ^", "[^!]", "!", false},
		{"a ] right at the beginning", "[]a]", "]", true},
		{"a ] right at the beginning, the other", "[]a]", "a", true},
		{"a ] right at the beginning, none of", "[]a]", "[", false},
		{"two ] at the beginning: the second ends", "[]]", "]", true},
		{"two ] at the beginning, then more", "[]]]", "]]", true},
		{"a ] right behind !", "[!]a]", "]", false},
		{"a ] right behind !, another", "[!]a]", "b", true},
		{"a ] right behind ^", "[^]]", "]", false},
		{"a ] right behind ^, another", "[^]]", "^", true},
		{"a [ in a set", "[[]", "[", true},
		{"a [ in a set, the other", "[[a]", "a", true},
		{"a [ in a set begins none", "[[a]]", "a]", true},
		{"star and ? in a set", "[*?]", "a", false},
		{"a star in a set", "[*?]", "*", true},
		{"a ? in a set", "[*?]", "?", true},
		{"a slash in a set", "a[/]b", "a/b", true},
		{"behind a star", "*[ab]c", "xxaxbc", true},
		{"of bytes, not of runes", "[\u00e9]", "\xa9", true},
	})
}

// P3.1: ranges, and a - that is none.
func TestMatchRanges(t *testing.T) {
	checkMatch(t, []matchCase{
		{"the first", "[b-d]", "b", true},
		{"between", "[b-d]", "c", true},
		{"the last", "[b-d]", "d", true},
		{"below", "[b-d]", "a", false},
		{"above", "[b-d]", "e", false},
		{"the - itself", "[b-d]", "-", false},
		{"all but", "[!b-d]", "c", false},
		{"all but, another", "[!b-d]", "e", true},
		{"all but, the -", "[^b-d]", "-", true},
		{"two ranges", "[a-cx-z]", "y", true},
		{"two ranges, between", "[a-cx-z]", "m", false},
		{"of one byte", "[b-b]", "b", true},
		{"the first above the other, the first", "[d-b]", "d", false},
		{"the first above the other, between", "[d-b]", "c", false},
		{"the first above the other, the other", "[d-b]", "b", false},
		{"the first above the other, the -", "[d-b]", "-", false},
		{"the first above the other, and one more", "[d-bx]", "x", true},
		{"all but none", "[!d-b]", "c", true},
		{"a - at the end", "[a-]", "-", true},
		{"a - at the end, the one ahead of it", "[a-]", "a", true},
		{"a - at the end, no range", "[a-]", "b", false},
		{"a - at the end, no range down to ]", "[Z-]", "[", false},
		{"a - at the end, all but", "[!a-]", "-", false},
		{"a - at the beginning", "[-a]", "-", true},
		{"a - at the beginning, no range", "[-a]", "0", false},
		{"a - behind !", "[!-a]", "-", false},
		{"a - alone", "[-]", "-", true},
		{"two -", "[--]", "-", true},
		{"three -", "[---]", "-", true},
		{"from - on", "x[--0]", "x.", true},
		{"from - on, below", "x[--0]", "x,", false},
		{"up to -", "[+--]", ",", true},
		{"behind a range", "[a-b-c]", "-", true},
		{"behind a range, the next", "[a-b-d]", "d", true},
		{"behind a range, no range", "[a-b-d]", "c", false},
		{"from ] on", "[]-a]", "^", true},
		{"from ] on, the -", "[]-a]", "-", false},
		{"a ] and a -", "[]-]", "-", true},
		{"a ] and a -, the ]", "[]-]", "]", true},
		{"all bytes", "[\x00-\xff]", "\xff", true},
		{"all bytes, the first", "[\x00-\xff]", "\x00", true},
		{"high bytes", "[\x80-\xfe]", "\xff", false},
		{"the last byte alone", "[\xff-\xff]", "\xff", true},
		{"[ and ! within", "[!-[]", "[", false},
		{"from ! on, quoted", `[\!-[]`, "A", true},
	})
}

// P3.1: a [ that no ] ends is itself, and what follows is read as ever.
func TestMatchOpen(t *testing.T) {
	checkMatch(t, []matchCase{
		{"alone", "[", "[", true},
		{"alone, another", "[", "a", false},
		{"at the end", "x[", "x[", true},
		{"with bytes", "[abc", "[abc", true},
		{"with bytes, no set", "[abc", "b", false},
		{"[]", "[]", "[]", true},
		{"[] is no empty set", "[]", "", false},
		{"[] is no set of ]", "[]", "]", false},
		{"[!]", "[!]", "[!]", true},
		{"[!] is no set", "[!]", "a", false},
		{"[^]", "[^]", "[^]", true},
		{"[!", "[!", "[!", true},
		{"[^", "[^", "[^", true},
		{"[!a", "[!a", "[!a", true},
		{"[a-", "[a-", "[a-", true},
		{"[a-z", "[a-z", "[a-z", true},
		{"a star behind it", "[a*", "[abc", true},
		{"a ? behind it", "[?", "[x", true},
		{"a quoted ] does not end it", `[a\]`, "[a]", true},
		{"a quoted ] does not end it, no set", `[a\]`, "a", false},
		{"a quoted ] behind a -", `[a-\]`, "[a-]", true},
		{"a backslash at the end", `[a\`, `[a\`, true},
		{"[ alone and a backslash", `[\`, `[\`, true},
		{"two of them", "[[", "[[", true},
		{"two of them and a ]", "x[]y[", "x[]y[", true},
		{"behind a set", "[ab][c", "b[c", true},
		{"a ] ahead of it", "a][", "a][", true},
		{"[] that a later ] ends", "[]x]", "x", true},
		{"[!] that a later ] ends", "[!]x]", "y", true},
	})
}

// P3.1: a backslash and a byte are that byte, also within a set; at the end it is itself.
func TestMatchBackslash(t *testing.T) {
	checkMatch(t, []matchCase{
		{"a star", `\*`, "*", true},
		{"a star, no wildcard", `\*`, "a", false},
		{"a star, as written", `\*`, `\*`, false},
		{"a ?", `\?`, "?", true},
		{"a ?, no wildcard", `\?`, "a", false},
		{"a [", `\[a]`, "[a]", true},
		{"a [, no set", `\[a]`, "a", false},
		{"a byte that needs none", `\a\b`, "ab", true},
		{"a backslash", `\\`, `\`, true},
		{"a backslash, then a star", `\\*`, `\abc`, true},
		{"a backslash, then a star, no backslash", `\\*`, "*", false},
		{"three and a star", `\\\*`, `\*`, true},
		{"at the end", `a\`, `a\`, true},
		{"at the end, not there", `a\`, "a", false},
		{"alone", `\`, `\`, true},
		{"three", `\\\`, `\\`, true},
		{"behind a star", `*\`, `ab\`, true},
		{"in a set, a ]", `[\]a]`, "]", true},
		{"in a set, a ], the other", `[\]a]`, "a", true},
		{"in a set, a ], the backslash", `[\]a]`, `\`, false},
		{"in a set, a ] later", `[a\]]`, "]", true},
		{"in a set, a -", `[a\-c]`, "-", true},
		{"in a set, a -, no range", `[a\-c]`, "b", false},
		{"in a set, a backslash", `[\\]`, `\`, true},
		{"in a set, a backslash, then its end", `[\\]]`, `\]`, true},
		{"in a set, a !", `[\!a]`, "!", true},
		{"in a set, a !, no turn", `[\!a]`, "b", false},
		{"in a set, a ^", `[\^a]`, "^", true},
		{"in a set, a byte that needs none", `[\a]`, "a", true},
		{"in a set, a byte that needs none, the backslash", `[\a]`, `\`, false},
		{"at a range's end", `[a-\c]`, "b", true},
		{"at a range's end, the backslash", `[a-\c]`, `\`, false},
		{"at a range's beginning", `[\a-c]`, "b", true},
		{"a ] at a range's end", `[Z-\]]`, `\`, true},
		{"a ] at a range's end, itself", `[Z-\]]`, "]", true},
		{"a - at a range's beginning", `x[\--0]`, "x.", true},
		{"a - at a range's end", `[+-\-]`, ",", true},
		{"a ] behind !", `[!\]]`, "]", false},
		{"any byte", "\\\xff\\\x00", "\xff\x00", true},
	})
}

// P3.1: a name that begins with a dot asks for a dot at p's beginning.
func TestMatchDot(t *testing.T) {
	checkMatch(t, []matchCase{
		{"a star", "*", ".a", false},
		{"a star, a dot alone", "*", ".", false},
		{"a star, two dots", "*", "..", false},
		{"a star and a dot", "*.a", ".a", false},
		{"a ?", "?a", ".a", false},
		{"a set", "[.]a", ".a", false},
		{"a set all but", "[!x]a", ".a", false},
		{"a range", "[--0]", ".", false},
		{"a dot", ".a", ".a", true},
		{"a dot and a star", ".*", ".a", true},
		{"a dot and a star, a dot alone", ".*", ".", true},
		{"a dot and a ?", ".?", "..", true},
		{"a dot, but another name", ".a", ".b", false},
		{"a quoted dot", `\.a`, ".a", true},
		{"a quoted dot and a star", `\.*`, ".abc", true},
		{"a quoted dot, but another name", `\.a`, ".b", false},
		{"a quoted backslash", `\\.a`, ".a", false},
		{"a star that could be empty", "*.", ".", false},
		{"empty", "", ".", false},
		{"a dot later", "a*", "a.b", true},
		{"a dot later, a set", "a[.]b", "a.b", true},
		{"a dot behind a slash", "*/*", "a/.b", true},
		{"a dot of p, a name without", ".*", "a", false},
		{"no dot, a name without", "*", "a", true},
	})
}

type plainCase struct {
	name, p string
	magic   bool
	plain   string
}

// P3.1: what is Magic and what is not, and Plain.
func TestMagicAndPlain(t *testing.T) {
	for _, c := range []plainCase{
		{"empty", "", false, ""},
		{"none", "abc", false, "abc"},
		{"a star", "*", true, "*"},
		{"a star later", "abc*", true, "abc*"},
		{"a ?", "a?b", true, "a?b"},
		{"a set", "a[b]", true, "a[b]"},
		{"a set all but", "[!a]", true, "[!a]"},
		{"a set of ]", "[]]", true, "[]]"},
		{"a set that no byte is of", "[b-a]", true, "[b-a]"},
		{"a ] alone", "a]", false, "a]"},
		{"a [ alone", "[", false, "["},
		{"a [ that no ] ends", "a[b", false, "a[b"},
		{"[]", "[]", false, "[]"},
		{"[!]", "[!]", false, "[!]"},
		{"[^]", "[^]", false, "[^]"},
		{"a star behind an open [", "[a*", true, "[a*"},
		{"a ? behind an open [", "[?", true, "[?"},
		{"a quoted star behind an open [", `[\*`, false, "[*"},
		{"a quoted star", `a\*`, false, "a*"},
		{"a quoted ?", `\?`, false, "?"},
		{"a quoted [", `\[a]`, false, "[a]"},
		{"a quoted [ ahead of a set", `\[[a]`, true, "[[a]"},
		{"a quoted ]", `[a\]`, false, "[a]"},
		{"a quoted ], then one", `[a\]]`, true, "[a]]"},
		{"a quoted byte in a set", `[\a]`, true, "[a]"},
		{"a quoted ! in a set", `[\!a]`, true, "[!a]"},
		{"a quoted backslash", `\\`, false, `\`},
		{"a quoted backslash and a star", `\\*`, true, `\*`},
		{"a quoted backslash and a quoted star", `\\\*`, false, `\*`},
		{"a quoted star, then a star", `\**`, true, "**"},
		{"a backslash at the end", `a\`, false, `a\`},
		{"a backslash alone", `\`, false, `\`},
		{"three backslashes", `\\\`, false, `\\`},
		{"four backslashes", `\\\\`, false, `\\`},
		{"a backslash at an open set's end", `[a\`, false, `[a\`},
		{"bytes that need no quote", `\a\.\/`, false, "a./"},
		{"a dot", ".a", false, ".a"},
		{"any bytes", "\\\xff\x00\\\xc2", false, "\xff\x00\xc2"},
	} {
		if got := Magic(c.p); got != c.magic {
			t.Errorf("%s: Magic(%q) = %v, want %v", c.name, c.p, got, c.magic)
		}
		if got := Plain(c.p); got != c.plain {
			t.Errorf("%s: Plain(%q) = %q, want %q", c.name, c.p, got, c.plain)
		}
		if !c.magic && !Match(c.p, c.plain) {
			t.Errorf("%s: %q does not match its plain %q", c.name, c.p, c.plain)
		}
	}
}

// P3.1: of all bytes just four are more than themselves, and a backslash makes each itself.
func TestEachByte(t *testing.T) {
	for b := range 256 {
		one := string([]byte{byte(b)})
		if got, want := Magic("x"+one), one == "*" || one == "?"; got != want {
			t.Errorf("Magic(%q) = %v, want %v", "x"+one, got, want)
		}
		if Magic(`\` + one) {
			t.Errorf("Magic(%q) is true", `\`+one)
		}
		if got := Plain(`\` + one + "x"); got != one+"x" {
			t.Errorf("Plain(%q) = %q", `\`+one+"x", got)
		}
		for c := range 256 {
			other := string([]byte{byte(c)})
			if got, want := Match("x"+one, "x"+other), b == c || one == "?" || one == "*"; got != want {
				t.Fatalf("Match(%q, %q) = %v, want %v", "x"+one, "x"+other, got, want)
			}
			if got := Match(`x\`+one, "x"+other); got != (b == c) {
				t.Fatalf("Match(%q, %q) = %v", `x\`+one, "x"+other, got)
			}
			if got := Match(`x[\`+one+`]`, "x"+other); got != (b == c) {
				t.Fatalf("Match(%q, %q) = %v", `x[\`+one+`]`, "x"+other, got)
			}
			if got := Match(`x[!\`+one+`]`, "x"+other); got != (b != c) {
				t.Fatalf("Match(%q, %q) = %v", `x[!\`+one+`]`, "x"+other, got)
			}
		}
	}
}

// P3.1: every range of two quoted bytes, held against bytes at its edges.
func TestEachRange(t *testing.T) {
	for low := range 256 {
		for high := range 256 {
			p := "x[\\" + string([]byte{byte(low)}) + "-\\" + string([]byte{byte(high)}) + "]"
			for _, b := range []int{0, low - 1, low, low + 1, '-', '\\', high - 1, high, high + 1, 255} {
				if b < 0 || b > 255 {
					continue
				}
				s := "x" + string([]byte{byte(b)})
				if got, want := Match(p, s), low <= b && b <= high; got != want {
					t.Fatalf("Match(%q, %q) = %v, want %v", p, s, got, want)
				}
			}
		}
	}
}

// R1: great patterns and names are held against each other in good time.
func TestGreat(t *testing.T) {
	const n = 1 << 16
	as := strings.Repeat("a", n)
	checkMatch(t, []matchCase{
		{"many stars, no end", strings.Repeat("a*", 200) + "b", as[:4000], false},
		{"many stars, an end", strings.Repeat("a*", 200) + "b", as[:4000] + "b", true},
		{"stars alone", strings.Repeat("*", n), as, true},
		{"stars and sets", strings.Repeat("*[a-z]", 200) + "?", as[:4000], true},
		{"a long end", "*" + as, as + as, true},
		{"many sets", strings.Repeat("[a]", n), as, true},
	})
	for name, p := range map[string]string{
		"open":          strings.Repeat("[", 1<<18),
		"open, quoted":  strings.Repeat(`[\]`, 1<<18),
		"open, !":       strings.Repeat("[!", 1<<18),
		"one open, [":   "[]" + strings.Repeat("[", 1<<18),
		"backslashes":   strings.Repeat(`\`, 1<<18+1),
		"ordinary":      strings.Repeat("a", 1<<18),
		"] alone":       strings.Repeat("]", 1<<18),
		"quoted star":   strings.Repeat(`\*`, 1<<18),
		"quoted, quote": strings.Repeat(`\\`, 1<<18),
	} {
		if Magic(p) || !Match(p, Plain(p)) {
			t.Errorf("%s: magic, or does not match its plain", name)
		}
	}
}
