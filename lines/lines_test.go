package lines

import (
	"math"
	"slices"
	"strings"
	"testing"

	"wainwright/api"
)

// line is a logical line that is no recipe's.
func line(n int, text string) api.Line { return api.Line{Text: text, N: n} }

// recipe is a recipe's line.
func recipe(n int, text string) api.Line { return api.Line{Text: text, N: n, Recipe: true} }

func of(l ...api.Line) []api.Line { return l }

// P8.1
func TestRaw(t *testing.T) {
	for _, c := range []struct {
		name, text string
		at         int
		s          string
		next       int
	}{
		{"at 0", "ab\ncd", 0, "ab", 3},
		{"in the midst", "ab\ncd", 1, "b", 3},
		{"at a byte 10", "ab\ncd", 2, "", 3},
		{"at the next line", "ab\ncd", 3, "cd", 5},
		{"in the midst of the last line", "ab\ncd", 4, "d", 5},
		{"at the end", "ab\ncd", 5, "", 5},
		{"behind the end", "ab\ncd", 6, "", 5},
		{"far behind the end", "ab\ncd", math.MaxInt, "", 5},
		{"below 0", "ab\ncd", -1, "ab", 3},
		{"far below 0", "ab\ncd", math.MinInt, "ab", 3},
		{"the last line with a byte 10", "ab\ncd\n", 3, "cd", 6},
		{"in the midst of the last line with a byte 10", "ab\ncd\n", 4, "d", 6},
		{"at the last byte 10", "ab\ncd\n", 5, "", 6},
		{"at the end with a byte 10", "ab\ncd\n", 6, "", 6},
		{"behind the end with a byte 10", "ab\ncd\n", 7, "", 6},
		{"the empty text", "", 0, "", 0},
		{"the empty text, behind the end", "", 1, "", 0},
		{"the empty text, below 0", "", -1, "", 0},
		{"a byte 10 alone", "\n", 0, "", 1},
		{"a byte 10 alone, at the end", "\n", 1, "", 1},
		{"a byte 10 alone, below 0", "\n", -7, "", 1},
		{"bytes 10 in a row", "\n\n\n", 1, "", 2},
		{"one line", "ab", 0, "ab", 2},
		{"a backslash at its end", "a\\\nb", 0, "a\\", 3},
		{"a remark", "a # b\nc", 0, "a # b", 6},
		{"a recipe's", "\ta\n", 0, "\ta", 3},
		{"blanks stay", " \t a \t \nb", 0, " \t a \t ", 8},
		{"byte 13", "a\r\nb\rc\n", 0, "a\r", 3},
		{"byte 13 ends no line", "a\r\nb\rc\n", 3, "b\rc", 7},
		{"byte 0", "\x00a\x00\n\x00", 0, "\x00a\x00", 4},
		{"bytes above 127", "\xff\u00e4\u2028\u0085\n\x8a", 0, "\xff\u00e4\u2028\u0085", 9},
		{"in the midst of a rune", "\u00e4\n", 1, "\xa4", 3},
	} {
		if s, next := Raw(c.text, c.at); s != c.s || next != c.next {
			t.Errorf("%s: Raw(%q, %d) = %q, %d, want %q, %d", c.name, c.text, c.at, s, next, c.s, c.next)
		}
	}
}

// P8.1: of all bytes just one ends a line.
func TestRawEachByte(t *testing.T) {
	for b := range 256 {
		text := "a" + string([]byte{byte(b)}) + "c"
		want, wantNext := text, 3
		if b == 10 {
			want, wantNext = "a", 2
		}
		if s, next := Raw(text, 0); s != want || next != wantNext {
			t.Errorf("Raw(%q, 0) = %q, %d, want %q, %d", text, s, next, want, wantNext)
		}
	}
}

// P8.1
func TestBare(t *testing.T) {
	for _, c := range []struct{ name, s, want string }{
		{"empty", "", ""},
		{"no #", "a b", "a b"},
		{"a # alone", "#", ""},
		{"a # at the beginning", "#a", ""},
		{"a # at the end", "a#", "a"},
		{"blanks ahead stay", "a \t # b", "a \t "},
		{"several #", "a # b # c", "a "},
		{"several # in a row", "a## b", "a"},
		{"one backslash", `a\#b`, "a#b"},
		{"two", `a\\#b`, `a\`},
		{"three", `a\\\#b`, `a\#b`},
		{"four", `a\\\\#b`, `a\\`},
		{"five", `a\\\\\#b`, `a\\#b`},
		{"one at the beginning", `\#b`, "#b"},
		{"two at the beginning", `\\#b`, `\`},
		{"a shielded one, then one", `a\#b#c`, "a#b"},
		{"a shielded one, then one right behind it", `a\##c`, "a#"},
		{"two shielded ones", `a\#b\#c`, "a#b#c"},
		{"two shielded ones side by side", `\#\#`, "##"},
		{"shielded by one, then by three", `a\#b\\\#c`, `a#b\#c`},
		{"shielded by three, then two ahead of one", `a\\\#b\\#c`, `a\#b\`},
		{"what is behind the first one stays nowhere", `a#b\#c`, "a"},
		{"a shielded one at the end", `a\#`, "a#"},
		{"a backslash elsewhere", `a\b`, `a\b`},
		{"backslashes at the end", `a\\`, `a\\`},
		{"an odd number at the end", `a\\\`, `a\\\`},
		{"backslashes alone", `\\\`, `\\\`},
		{"backslashes elsewhere, and a #", `a\\b\c#d`, `a\\b\c`},
		{"a blank between backslash and #", `a\ #b`, `a\ `},
		{"two and a blank between", `a\\ #b`, `a\\ `},
		{"elsewhere and right ahead", `\\a\\\#b\\`, `\\a\#b\\`},
		{"behind a shielded one", `\#\\a`, `#\\a`},
		{"behind a shielded one, at the end", `\#\`, `#\`},
		{"two parted by another byte", `\a\#b`, `\a#b`},
		{"in a reference", `$(a#b)`, "$(a"},
		{"in quotes", `"a#b"`, `"a`},
		{"behind a $", "$#", "$"},
		{"a byte 10 is a byte", "a\nb#c\nd", "a\nb"},
		{"a backslash ahead of a byte 10", "a\\\n#b", "a\\\n"},
		{"bytes above 127, 13 and 0", "\xff\r\x00\u00e4#\xfe", "\xff\r\x00\u00e4"},
		{"behind a shielded # too", "\x00\\#\xff\r", "\x00#\xff\r"},
	} {
		if got := Bare(c.s); got != c.want {
			t.Errorf("%s: Bare(%q) = %q, want %q", c.name, c.s, got, c.want)
		}
	}
}

// P8.1: just a # begins a remark, and just a backslash shields it.
func TestBareEachByte(t *testing.T) {
	for b := range 256 {
		mid := string([]byte{byte(b)})
		ahead, shield := "a"+mid+"c", "a"+mid
		switch b {
		case '#':
			ahead, shield = "a", "a"
		case '\\':
			shield = "a#c"
		}
		if got := Bare("a" + mid + "c"); got != ahead {
			t.Errorf("Bare(%q) = %q, want %q", "a"+mid+"c", got, ahead)
		}
		if got := Bare("a" + mid + "#c"); got != shield {
			t.Errorf("Bare(%q) = %q, want %q", "a"+mid+"#c", got, shield)
		}
	}
}

// P8.2
func TestNext(t *testing.T) {
	const text = "a\nb \\\nc # d\n\te \\\n\tf\n"
	for _, c := range []struct {
		name, text string
		at, n      int
		want       api.Line
		next       int
		number     int
	}{
		{"at 0", text, 0, 1, line(1, "a"), 2, 2},
		{"a line that goes on", text, 2, 2, line(2, "b c "), 12, 4},
		{"a recipe's that goes on", text, 12, 4, recipe(4, "e \\\nf"), 20, 6},
		{"in the midst of a line", text, 3, 2, line(2, " c "), 12, 4},
		{"at the backslash", text, 4, 2, line(2, " c "), 12, 4},
		{"at a byte 10", text, 1, 1, line(1, ""), 2, 2},
		{"at the byte 10 behind a backslash", text, 5, 2, line(2, ""), 6, 3},
		{"at a line that another one goes on in", text, 6, 3, line(3, "c "), 12, 4},
		{"in the midst of a recipe's", text, 13, 4, line(4, "e f"), 20, 6},
		{"at a byte 9 in the midst of a line", "a\tb\nc", 1, 1, recipe(1, "b"), 4, 2},
		{"at the last byte", "ab", 1, 9, line(9, "b"), 2, 10},
		{"number 0", text, 2, 0, line(0, "b c "), 12, 2},
		{"a number below 0", text, 2, -5, line(-5, "b c "), 12, -3},
		{"up to 0", text, 2, -2, line(-2, "b c "), 12, 0},
		{"a great number", text, 2, math.MaxInt - 2, line(math.MaxInt-2, "b c "), 12, math.MaxInt},
		{"the least number", text, 2, math.MinInt, line(math.MinInt, "b c "), 12, math.MinInt + 2},
		{"a number does not go round", text, 2, math.MaxInt - 1, line(math.MaxInt-1, "b c "), 12, math.MaxInt},
		{"nor does the greatest", text, 0, math.MaxInt, line(math.MaxInt, "a"), 2, math.MaxInt},
	} {
		l, next, number, ok := Next(c.text, c.at, c.n)
		if !ok || l != c.want || next != c.next || number != c.number {
			t.Errorf("%s: Next(%q, %d, %d) = %+v, %d, %d, %v, want %+v, %d, %d", c.name, c.text, c.at, c.n, l, next, number, ok, c.want, c.next, c.number)
		}
	}
}

// P8.2 and R2: where no line begins all results are zero.
func TestNextNowhere(t *testing.T) {
	for _, text := range []string{"", "\n", "a", "a\n", "a\\", "\ta\n", "a\nb"} {
		for _, at := range []int{-1, -2, math.MinInt, len(text), len(text) + 1, math.MaxInt} {
			if l, next, number, ok := Next(text, at, 7); ok || l != (api.Line{}) || next != 0 || number != 0 {
				t.Errorf("Next(%q, %d, 7) = %+v, %d, %d, %v, want zeros", text, at, l, next, number, ok)
			}
		}
	}
}

type allCase struct {
	name, text string
	want       []api.Line
}

// checkAll holds what All answers against what it must be.
func checkAll(t *testing.T, cases []allCase) {
	t.Helper()
	for _, c := range cases {
		if got := All(c.text); !slices.Equal(got, c.want) {
			t.Errorf("%s: All(%q) = %+v, want %+v", c.name, c.text, got, c.want)
		}
	}
}

// P8.3 and P8.4
func TestAll(t *testing.T) {
	checkAll(t, []allCase{
		{"the empty text", "", nil},
		{"a byte 10 alone", "\n", of(line(1, ""))},
		{"two of them", "\n\n", of(line(1, ""), line(2, ""))},
		{"a line without a byte 10", "a", of(line(1, "a"))},
		{"a line with a byte 10", "a\n", of(line(1, "a"))},
		{"two lines", "a\nb", of(line(1, "a"), line(2, "b"))},
		{"two lines with bytes 10", "a\nb\n", of(line(1, "a"), line(2, "b"))},
		{"an empty line at the end", "a\n\n", of(line(1, "a"), line(2, ""))},
		{"an empty line at the beginning", "\na", of(line(1, ""), line(2, "a"))},
		{"an empty line between", "a\n\nb", of(line(1, "a"), line(2, ""), line(3, "b"))},
		{"blanks stay", " a \t\n  ", of(line(1, " a \t"), line(2, "  "))},
		{"remarks", "a # b\n# c\nd", of(line(1, "a "), line(2, ""), line(3, "d"))},
		{"a remark that is shielded", "a\\#b\nc\\\\#d", of(line(1, "a#b"), line(2, `c\`))},
		{"recipes' lines", "t: a\n\tx\n\ty\nb", of(line(1, "t: a"), recipe(2, "x"), recipe(3, "y"), line(4, "b"))},
		{"a makefile", "v = 1 \\\n  2 # 3\n\nt: $(v)\n\techo \\\n\t  $@\n# end", of(line(1, "v = 1 2 "), line(3, ""), line(4, "t: $(v)"), recipe(5, "echo \\\n  $@"), line(7, ""))},
		{"byte 13", "a\r\nb\r\n", of(line(1, "a\r"), line(2, "b\r"))},
		{"byte 0", "\x00\n\x00a", of(line(1, "\x00"), line(2, "\x00a"))},
		{"bytes above 127", "\xff\n\u00e4\u2028b\u0085\n\xe2\x80", of(line(1, "\xff"), line(2, "\u00e4\u2028b\u0085"), line(3, "\xe2\x80"))},
	})
}

// P8.2: lines that go on, but for recipes' ones.
func TestGoingOn(t *testing.T) {
	checkAll(t, []allCase{
		{"the document's example", "a \\\n  b # c", of(line(1, "a b "))},
		{"one backslash", "a\\\nb\nc", of(line(1, "a b"), line(3, "c"))},
		{"two", "a\\\\\nb", of(line(1, `a\\`), line(2, "b"))},
		{"three", "a\\\\\\\nb", of(line(1, `a\\ b`))},
		{"four", "a\\\\\\\\\nb", of(line(1, `a\\\\`), line(2, "b"))},
		{"backslashes elsewhere", "\\a\\b\nc", of(line(1, `\a\b`), line(2, "c"))},
		{"a backslash and a blank", "a\\ \nb", of(line(1, `a\ `), line(2, "b"))},
		{"a backslash and a byte 13", "a\\\r\nb", of(line(1, "a\\\r"), line(2, "b"))},
		{"the last line, without a byte 10", "a\\", of(line(1, `a\`))},
		{"the last line, with a byte 10", "a\\\n", of(line(1, `a\`))},
		{"the last line, with blanks ahead", "a \t\\\n", of(line(1, "a \t\\"))},
		{"a backslash alone", `\`, of(line(1, `\`))},
		{"a backslash and a byte 10 alone", "\\\n", of(line(1, `\`))},
		{"the last line, put behind", "a\\\nb\\", of(line(1, `a b\`))},
		{"the last line, put behind, with blanks ahead of its backslash", "a\\\n b \\\n", of(line(1, `a b \`))},
		{"onto a last line of a backslash alone", "a \\\n\\", of(line(1, `a \`))},
		{"onto a last line of three", "a\\\n\\\\\\\n", of(line(1, `a \\\`))},
		{"onto an empty line", "a\\\n\nb", of(line(1, "a "), line(3, "b"))},
		{"onto an empty line at the end", "a\\\n\n", of(line(1, "a "))},
		{"a line with an even number put behind", "a\\\nb\\\\\nc", of(line(1, `a b\\`), line(3, "c"))},
		{"three lines", "a\\\nb\\\nc\nd", of(line(1, "a b c"), line(4, "d"))},
		{"two that go on", "a\\\nb\nc\\\n\\\nd\ne", of(line(1, "a b"), line(3, "c d"), line(6, "e"))},
		{"three backslashes in the midst", "a\\\nb\\\\\\\nc", of(line(1, `a b\\ c`))},
		{"three backslashes alone in the midst", "a\\\n\\\\\\\nc", of(line(1, `a \\ c`))},
		{"bytes above 127, 13 and 0", "\xff\r\\\n\x00\\\n\r\u00a0\n", of(line(1, "\xff\r \x00 \r\u00a0"))},
	})
}

// P8.2: the blanks around a backslash and its byte 10.
func TestBlanks(t *testing.T) {
	checkAll(t, []allCase{
		{"ahead of the backslash", "a \t \\\nb", of(line(1, "a b"))},
		{"at the next line's beginning", "a\\\n \t b", of(line(1, "a b"))},
		{"both", "a\t\\\n\tb", of(line(1, "a b"))},
		{"at the first line's beginning they stay", " a\\\nb", of(line(1, " a b"))},
		{"in the midst they stay", "a  b\\\nc \t d", of(line(1, "a  b c \t d"))},
		{"at the last line's end they stay", "a\\\nb \t", of(line(1, "a b \t"))},
		{"of three backslashes, ahead of the first", "a \\\\\\\nb", of(line(1, `a \\ b`))},
		{"ahead of the backslash alone", " \t\\\nb", of(line(1, " b"))},
		{"no byte ahead of the backslash", "\\\nb", of(line(1, " b"))},
		{"a line of blanks alone is put behind", "a\\\n \t \nb", of(line(1, "a "), line(3, "b"))},
		{"a line of blanks alone is put behind, at the end", "a \\\n  ", of(line(1, "a "))},
		{"a line of blanks alone that goes on", "a\\\n \t \\\nb", of(line(1, "a b"))},
		{"several of them", "a\\\n \\\n\\\n\t\\\nb\nc", of(line(1, "a b"), line(6, "c"))},
		{"them at the beginning", " \\\n \\\n\\\nb", of(line(1, " b"))},
		{"them, and nothing", "\\\n\\\n\n", of(line(1, " "))},
		{"them, and a backslash", "\\\n \\\n \\", of(line(1, ` \`))},
		{"a line behind them", "a\\\n \\\nb\\\n \\\nc", of(line(1, "a b c"))},
		{"wide spaces and others are no blanks", "a\u00a0\\\n\u2003b\v\\\n\fc", of(line(1, "a\u00a0 \u2003b\v \fc"))},
		{"nor is byte 13", "a\r\\\n\rb", of(line(1, "a\r \rb"))},
		{"onto one that begins with a byte 9", "a\\\n\tb\nc", of(line(1, "a b"), line(3, "c"))},
		{"a byte 9 behind a blank is no recipe's", " \ta\\\n\tb", of(line(1, " \ta b"))},
		{"a byte 9 alone is put behind", "a\\\n\t\n\tb", of(line(1, "a "), recipe(3, "b"))},
	})
}

// P8.2: remarks in lines that go on.
func TestRemarksGoingOn(t *testing.T) {
	checkAll(t, []allCase{
		{"in the first line", "a # b \\\nc\nd", of(line(1, "a "), line(3, "d"))},
		{"a remark alone", "# b\\\nc\\\nd\ne", of(line(1, ""), line(4, "e"))},
		{"in the second line", "a \\\nb # c\nd", of(line(1, "a b "), line(3, "d"))},
		{"at the second line's beginning", "a\\\n#b\nc", of(line(1, "a "), line(3, "c"))},
		{"in the second line, which goes on", "a\\\nb#c\\\nd\ne", of(line(1, "a b"), line(4, "e"))},
		{"shielded in the first line", "a\\#b\\\nc#d", of(line(1, "a#b c"))},
		{"shielded in the second line", "a\\\nb\\#c\nd", of(line(1, "a b#c"), line(3, "d"))},
		{"shielded at the second line's beginning", "a\\\n\\#b", of(line(1, "a #b"))},
		{"what goes on shields nothing", "a\\\\\\\n#b", of(line(1, `a\\ `))},
		{"a # right behind the byte 10 of an even number", "a\\\\\n#b", of(line(1, `a\\`), line(2, ""))},
		{"a last backslash behind a remark", "a # b\\", of(line(1, "a "))},
		{"a # right ahead of the backslash", "a#\\\nb", of(line(1, "a"))},
		{"a shielded # right ahead of the backslash", "a\\#\\\nb", of(line(1, "a# b"))},
	})
}

// P8.2: recipes' lines.
func TestRecipes(t *testing.T) {
	checkAll(t, []allCase{
		{"one alone", "\tx", of(recipe(1, "x"))},
		{"an empty one", "\t", of(recipe(1, ""))},
		{"an empty one with a byte 10", "\t\n", of(recipe(1, ""))},
		{"one byte 9 goes", "\t\t x \t", of(recipe(1, "\t x \t"))},
		{"a # stays", "\tx # y", of(recipe(1, "x # y"))},
		{"a shielded # stays", "\tx \\# y \\\\# z", of(recipe(1, `x \# y \\# z`))},
		{"a # in one that goes on", "\tx # y\\\n# z\\\n\t#", of(recipe(1, "x # y\\\n# z\\\n#"))},
		{"one that goes on", "\tx \\\ny\nt", of(recipe(1, "x \\\ny"), line(3, "t"))},
		{"with a byte 9 ahead of the next", "\tx \\\n\ty\n\tz", of(recipe(1, "x \\\ny"), recipe(3, "z"))},
		{"with two of them", "\tx\\\n\t\ty", of(recipe(1, "x\\\n\ty"))},
		{"with a blank and a byte 9", "\tx\\\n \ty", of(recipe(1, "x\\\n \ty"))},
		{"blanks stay", "\t x \t\\\n  y ", of(recipe(1, " x \t\\\n  y "))},
		{"three lines", "\tx\\\n\ty\\\nz\n\tu", of(recipe(1, "x\\\ny\\\nz"), recipe(4, "u"))},
		{"an even number", "\tx\\\\\n\ty", of(recipe(1, `x\\`), recipe(2, "y"))},
		{"three backslashes", "\tx\\\\\\\n\ty", of(recipe(1, "x\\\\\\\ny"))},
		{"an even number in the second line", "\tx\\\ny\\\\\nt", of(recipe(1, "x\\\ny\\\\"), line(3, "t"))},
		{"the last line, without a byte 10", "\tx\\", of(recipe(1, `x\`))},
		{"the last line, with a byte 10", "\tx\\\n", of(recipe(1, `x\`))},
		{"the last line, put behind", "\tx\\\n\ty\\\n", of(recipe(1, "x\\\ny\\"))},
		{"a backslash alone", "\t\\\n\t\\\nx", of(recipe(1, "\\\n\\\nx"))},
		{"onto an empty line", "\tx\\\n\ny", of(recipe(1, "x\\\n"), line(3, "y"))},
		{"onto a byte 9 alone", "\tx\\\n\t\ny", of(recipe(1, "x\\\n"), line(3, "y"))},
		{"onto a byte 9 alone at the end", "\tx\\\n\t", of(recipe(1, "x\\\n"))},
		{"behind a line that goes on", "a\\\nb\n\tx", of(line(1, "a b"), recipe(3, "x"))},
		{"bytes above 127, 13 and 0", "\t\xff\r\\\n\t\x00\u00e4\r", of(recipe(1, "\xff\r\\\n\x00\u00e4\r"))},
	})
}

// P8.4
func TestWithoutBackslashes(t *testing.T) {
	for _, text := range []string{"\n", "a", "\n\n\n", "a\nb", "\ta\n#b\n\n c", strings.Repeat("a\n", 1000), strings.Repeat("\n#", 1000), strings.Repeat("\t", 1000)} {
		want := strings.Count(text, "\n")
		if !strings.HasSuffix(text, "\n") {
			want++
		}
		l := All(text)
		if len(l) != want {
			t.Errorf("%q: %d lines, want %d", text, len(l), want)
		}
		for i := range l {
			if l[i].N != i+1 {
				t.Errorf("%q: line %d has the number %d", text, i+1, l[i].N)
			}
		}
	}
}
