package pattern

import (
	"strings"
	"testing"
)

type ofCase struct {
	name, s string
	want    Pattern
}

// ofCases are P2.1's ordinary patterns and edges, written out by hand.
func ofCases() []ofCase {
	return []ofCase{
		{"empty", "", Pattern{}},
		{"a % alone", "%", Pattern{Has: true}},
		{"Post alone", "%.c", Pattern{Has: true, Post: ".c"}},
		{"Pre alone", "lib%", Pattern{Has: true, Pre: "lib"}},
		{"both ends", "lib%.a", Pattern{Has: true, Pre: "lib", Post: ".a"}},
		{"no %", "abc", Pattern{Pre: "abc"}},
		{"a second %", "a%b%c", Pattern{Has: true, Pre: "a", Post: "b%c"}},
		{"two % side by side", "%%", Pattern{Has: true, Post: "%"}},
		{"one backslash", `a\%b`, Pattern{Pre: "a%b"}},
		{"two backslashes", `a\\%b`, Pattern{Has: true, Pre: `a\`, Post: "b"}},
		{"three backslashes", `a\\\%b`, Pattern{Pre: `a\%b`}},
		{"four backslashes", `a\\\\%b`, Pattern{Has: true, Pre: `a\\`, Post: "b"}},
		{"five backslashes", `a\\\\\%b`, Pattern{Pre: `a\\%b`}},
		{"one backslash at the beginning", `\%`, Pattern{Pre: "%"}},
		{"two backslashes at the beginning", `\\%`, Pattern{Has: true, Pre: `\`}},
		{"odd, then none", `a\%b%c`, Pattern{Has: true, Pre: "a%b", Post: "c"}},
		{"odd, then none, side by side", `\%%`, Pattern{Has: true, Pre: "%"}},
		{"odd, then even", `\%\\%x`, Pattern{Has: true, Pre: `%\`, Post: "x"}},
		{"odd, then odd", `\%\\\%x`, Pattern{Pre: `%\%x`}},
		{"odd, odd, then none", `a\%b\%c%d`, Pattern{Has: true, Pre: "a%b%c", Post: "d"}},
		{"one backslash behind the pattern's %", `%\%`, Pattern{Has: true, Post: `\%`}},
		{"backslashes behind the pattern's %", `a%\\\%\\%b\`, Pattern{Has: true, Pre: "a", Post: `\\\%\\%b\`}},
		{"a backslash, and no %", `a\b`, Pattern{Pre: `a\b`}},
		{"backslashes at the end", `a\\`, Pattern{Pre: `a\\`}},
		{"backslashes not right ahead", `\\\x%`, Pattern{Has: true, Pre: `\\\x`}},
		{"backslashes apart, then right ahead", `\\x\\%`, Pattern{Has: true, Pre: `\\x\`}},
		{"backslashes apart, then an odd one", `\\x\%\\`, Pattern{Pre: `\\x%\\`}},
		{"blanks", " %\t%\n", Pattern{Has: true, Pre: " ", Post: "\t%\n"}},
		{"any bytes", "\x00\xff%\xc2\r", Pattern{Has: true, Pre: "\x00\xff", Post: "\xc2\r"}},
		{"a wide percent sign", "\uff05\uff3c%", Pattern{Has: true, Pre: "\uff05\uff3c"}},
	}
}

// P2.1
func TestOf(t *testing.T) {
	for _, c := range ofCases() {
		if got := Of(c.s); got != c.want {
			t.Errorf("%s: Of(%q) = %+v, want %+v", c.name, c.s, got, c.want)
		}
	}
}

// P2.1: of all bytes just % is a stem's place, and just the backslash shields it.
func TestOfEachByte(t *testing.T) {
	for b := range 256 {
		if b == '%' || b == '\\' {
			continue
		}
		s := string([]byte{byte(b)})
		if got, want := Of(s+s), (Pattern{Pre: s + s}); got != want {
			t.Errorf("Of(%q) = %+v, want %+v", s+s, got, want)
		}
		if got, want := Of(s+"%"+s), (Pattern{Has: true, Pre: s, Post: s}); got != want {
			t.Errorf("Of(%q) = %+v, want %+v", s+"%"+s, got, want)
		}
	}
}

// P2.1: long runs of backslashes are halved, rounded down, whatever their number.
func TestOfLongRuns(t *testing.T) {
	for n := range 300 {
		s := strings.Repeat(`\`, n)
		half := strings.Repeat(`\`, n/2)
		want := Pattern{Has: true, Pre: half, Post: s}
		if n%2 == 1 {
			want = Pattern{Pre: half + "%" + s}
		}
		if got := Of(s + "%" + s); got != want {
			t.Errorf("%d backslashes: %+v, want %+v", n, got, want)
		}
	}
}

// P2.1 and R1: a great text is read in one go.
func TestOfGreat(t *testing.T) {
	const n = 1 << 20
	if got, want := Of(strings.Repeat(`\%`, n)), (Pattern{Pre: strings.Repeat("%", n)}); got != want {
		t.Error("many % of their own")
	}
	if got, want := Of(strings.Repeat(`\`, n)), (Pattern{Pre: strings.Repeat(`\`, n)}); got != want {
		t.Error("backslashes alone")
	}
}

type matchCase struct {
	name, p, w, stem string
	ok               bool
}

// matchCases are P2.2's words, ordinary ones, edges, and words that do not fit.
func matchCases() []matchCase {
	return []matchCase{
		{"ordinary", "%.c", "a.c", "a", true},
		{"both ends", "lib%.a", "libx.a", "x", true},
		{"a stem with a %", "a%b", "a%%b", "%%", true},
		{"a stem with slashes and blanks", "%.c", "d/e f\\.c", "d/e f\\", true},
		{"an empty stem", "%.c", ".c", "", true},
		{"an empty stem between", "lib%.a", "lib.a", "", true},
		{"% alone, any word", "%", "xyz", "xyz", true},
		{"% alone, an empty word", "%", "", "", true},
		{"Pre alone", "a%", "ab", "b", true},
		{"Pre alone, not at the beginning", "a%", "ba", "", false},
		{"Post alone, not at the end", "%a", "ab", "", false},
		{"Pre does not fit", "lib%.a", "lxbx.a", "", false},
		{"Post does not fit", "lib%.a", "libx.b", "", false},
		{"shorter than Post", "%.c", "c", "", false},
		{"an empty word", "%.c", "", "", false},
		{"room for one end alone", "a%a", "a", "", false},
		{"ends that would overlap", "aba%aba", "ababa", "", false},
		{"just room for both ends", "aba%aba", "abaaba", "", true},
		{"one more than both ends", "a%a", "aaa", "a", true},
		{"the longest stem", "a%a", "aaaaa", "aaa", true},
		{"a second % stands for itself", "x%%y", "xq%y", "q", true},
		{"a second % is no stem", "x%%y", "xqqy", "", false},
		{"a backslash behind the % stays", `%\%`, `a\%`, "a", true},
		{"a backslash behind the % is asked", `%\%`, "a%", "", false},
		{"halved backslashes", `\\%.c`, `\a.c`, "a", true},
		{"halved backslashes are not the text's", `\\\\%`, `\a`, "", false},
		{"no %: the same", "abc", "abc", "", true},
		{"no %: more", "abc", "abcd", "", false},
		{"no %: less", "abc", "ab", "", false},
		{"no %: another", "abc", "abd", "", false},
		{"no %: an empty word", "abc", "", "", false},
		{"a % that stands for itself", `a\%`, "a%", "", true},
		{"a % that stands for itself is no place", `a\%`, "ab", "", false},
		{"a % that stands for itself, the text as written", `a\%`, `a\%`, "", false},
		{"empty and empty", "", "", "", true},
		{"empty and a word", "", "a", "", false},
		{"case is kept", "%.C", "a.c", "", false},
		{"any bytes", "\xff%\x00", "\xff\xc2\x80\x00", "\xc2\x80", true},
	}
}

// P2.2 and P2.3
func TestMatch(t *testing.T) {
	for _, c := range matchCases() {
		p := Of(c.p)
		stem, ok := p.Match(c.w)
		if stem != c.stem || ok != c.ok {
			t.Errorf("%s: Of(%q).Match(%q) = %q, %v, want %q, %v", c.name, c.p, c.w, stem, ok, c.stem, c.ok)
		}
		if got := p.Put(stem); ok && got != c.w {
			t.Errorf("%s: Of(%q).Put(%q) = %q, want %q", c.name, c.p, stem, got, c.w)
		}
	}
}

// P2.2
func TestPut(t *testing.T) {
	for _, c := range []struct{ p, stem, want string }{
		{"a%b", "X", "aXb"},
		{"a%b", "", "ab"},
		{"a%b", "%", "a%b"},
		{"a%b", `\%`, `a\%b`},
		{"a%b%", "x y", "ax yb%"},
		{`a\\%b\\%`, "x", `a\xb\\%`},
		{"%", "", ""},
		{"%", "x", "x"},
		{"ab", "X", "ab"},
		{`a\%b`, "X", "a%b"},
		{"", "X", ""},
		{"", "", ""},
	} {
		if got := Of(c.p).Put(c.stem); got != c.want {
			t.Errorf("Of(%q).Put(%q) = %q, want %q", c.p, c.stem, got, c.want)
		}
	}
}

// P2.2: without Has, Post is nobody's.
func TestPostWithoutHas(t *testing.T) {
	p := Pattern{Pre: "a", Post: "b"}
	if got := p.Put("x"); got != "a" {
		t.Errorf("Put = %q", got)
	}
	if stem, ok := p.Match("a"); stem != "" || !ok {
		t.Errorf("Match(a) = %q, %v", stem, ok)
	}
	if stem, ok := p.Match("axb"); stem != "" || ok {
		t.Errorf("Match(axb) = %q, %v", stem, ok)
	}
}

// P2.2
func TestReplace(t *testing.T) {
	for _, c := range []struct {
		name, from, to, w, want string
		ok                      bool
	}{
		{"the document's example", "%.c", "%.o", "a.c", "a.o", true},
		{"no match", "%.c", "%.o", "a.h", "a.h", false},
		{"no match, an empty word", "%.c", "%.o", "", "", false},
		{"no room for both ends", "a%a", "%", "a", "a", false},
		{"an empty stem", "%.c", "x%.o", ".c", "x.o", true},
		{"both ends", "lib%.a", "%/lib.so", "libz.a", "z/lib.so", true},
		{"a stem with a %", "%.c", "%.o", "%.c", "%.o", true},
		{"to without a %", "%.c", "x", "a.c", "x", true},
		{"to empty", "%.c", "", "a.c", "", true},
		{"to with two %", "%", "a%b%", "x", "axb%", true},
		{"to with a shielded %", "%.c", `\%`, "a.c", "%", true},
		{"to with a shielded % and one of its own", "%.c", `\%-%`, "a.c", "%-a", true},
		{"to with halved backslashes", "%.c", `\\%.o`, "a.c", `\a.o`, true},
		{"to with backslashes elsewhere", "%.c", `\x\\`, "a.c", `\x\\`, true},
		{"from without a %", "a", "b", "a", "b", true},
		{"from without a %, no match", "a", "b", "c", "c", false},
		{"from without a %, no match but a part", "a", "b", "aa", "aa", false},
		{"from without a %: to's % stays", "a", "b%", "a", "b%", true},
		{"from without a %: to's backslash stays", "a", `\%`, "a", `\%`, true},
		{"from without a %: to's backslashes stay", "a", `\\%c\\`, "a", `\\%c\\`, true},
		{"from with a shielded %", `a\%`, `x\%`, "a%", `x\%`, true},
		{"from with a shielded %, no match", `a\%`, "x", "ab", "ab", false},
		{"from empty", "", "b", "", "b", true},
		{"from empty, a word", "", "b", "a", "a", false},
		{"all empty", "", "", "", "", true},
		{"any bytes", "\xff%", "%\x00", "\xff\xfe", "\xfe\x00", true},
	} {
		got, ok := Replace(c.from, c.to, c.w)
		if got != c.want || ok != c.ok {
			t.Errorf("%s: Replace(%q, %q, %q) = %q, %v, want %q, %v", c.name, c.from, c.to, c.w, got, ok, c.want, c.ok)
		}
	}
}

// allTexts is every text of at most most of the pieces.
func allTexts(pieces []string, most int) []string {
	all := []string{""}
	last := all
	for range most {
		var next []string
		for _, s := range last {
			for _, p := range pieces {
				next = append(next, s+p)
			}
		}
		all = append(all, next...)
		last = next
	}
	return all
}

// plainOf is P2.1 byte by byte, with the backslashes kept back till it is seen what follows.
func plainOf(s string) Pattern {
	pre, kept := "", 0
	for i := 0; i < len(s); i++ {
		switch {
		case s[i] == '\\':
			kept++
			continue
		case s[i] == '%' && kept%2 == 0:
			return Pattern{Has: true, Pre: pre + strings.Repeat(`\`, kept/2), Post: s[i+1:]}
		case s[i] == '%':
			kept /= 2
		}
		pre += strings.Repeat(`\`, kept) + s[i:i+1]
		kept = 0
	}
	return Pattern{Pre: pre + strings.Repeat(`\`, kept)}
}

// P2.1, over all short texts.
func TestOfShortTexts(t *testing.T) {
	for _, s := range allTexts([]string{"%", `\`, "a"}, 8) {
		if got, want := Of(s), plainOf(s); got != want {
			t.Fatalf("Of(%q) = %+v, want %+v", s, got, want)
		}
	}
}

// P2.2 and P2.3, over all short patterns and words: a stem is one that, put, gives the word.
func TestMatchShortTexts(t *testing.T) {
	texts := allTexts([]string{"%", `\`, "a", "b"}, 4)
	for _, s := range texts {
		p := Of(s)
		for _, w := range texts {
			want, fits := plainStem(p, w)
			stem, ok := p.Match(w)
			if stem != want || ok != fits {
				t.Fatalf("Of(%q).Match(%q) = %q, %v, want %q, %v", s, w, stem, ok, want, fits)
			}
			if got := p.Put(stem); ok && got != w {
				t.Fatalf("Of(%q).Put(%q) = %q, want %q", s, stem, got, w)
			}
		}
	}
}

// plainStem looks for the piece of w that stands between the pattern's ends.
func plainStem(p Pattern, w string) (string, bool) {
	if !p.Has {
		return "", w == p.Pre
	}
	for from := range len(w) + 1 {
		for to := from; to <= len(w); to++ {
			if w[:from] == p.Pre && w[to:] == p.Post {
				return w[from:to], true
			}
		}
	}
	return "", false
}

// P2.2: Replace is told by Of, Match and Put, over all short texts.
func TestReplaceShortTexts(t *testing.T) {
	texts := allTexts([]string{"%", `\`, "a"}, 3)
	for _, from := range texts {
		p := plainOf(from)
		for _, to := range texts {
			q := plainOf(to)
			for _, w := range texts {
				want, fits := w, false
				if stem, ok := plainStem(p, w); ok && p.Has && q.Has {
					want, fits = q.Pre+stem+q.Post, true
				} else if ok && p.Has {
					want, fits = q.Pre, true
				} else if ok {
					want, fits = to, true
				}
				got, ok := Replace(from, to, w)
				if got != want || ok != fits {
					t.Fatalf("Replace(%q, %q, %q) = %q, %v, want %q, %v", from, to, w, got, ok, want, fits)
				}
			}
		}
	}
}

// P2.3: a pattern that replaces itself leaves each word as it is.
func TestReplaceByItself(t *testing.T) {
	for _, c := range matchCases() {
		if !Of(c.p).Has {
			continue
		}
		if got, ok := Replace(c.p, c.p, c.w); got != c.w || ok != c.ok {
			t.Errorf("%s: Replace(%q, %q, %q) = %q, %v, want %q, %v", c.name, c.p, c.p, c.w, got, ok, c.w, c.ok)
		}
	}
}

// P2.3 and R4: a pattern's method values keep the pattern that they were taken of.
func TestMethodValues(t *testing.T) {
	p := Of("lib%.a")
	match, put := p.Match, p.Put
	p = Of("%.c")
	for range 2 {
		stem, ok := match("libm.a")
		if stem != "m" || !ok {
			t.Errorf("match = %q, %v", stem, ok)
		}
		if got := put(stem); got != "libm.a" {
			t.Errorf("put = %q", got)
		}
	}
	if stem, ok := p.Match("x.c"); stem != "x" || !ok {
		t.Errorf("the later pattern: %q, %v", stem, ok)
	}
}
