package words

import (
	"slices"
	"strings"
	"testing"
)

const blanks = " \t\n"

type textCase struct {
	name, s           string
	split             []string
	strip, trim, left string
}

// textCases are P1.1's ordinary texts and edges, written out by hand.
func textCases() []textCase {
	return []textCase{
		{"empty", "", nil, "", "", ""},
		{"one word", "abc", []string{"abc"}, "abc", "abc", "abc"},
		{"two words", "a b", []string{"a", "b"}, "a b", "a b", "a b"},
		{"the document's example", "  a  b", []string{"a", "b"}, "a b", "a  b", "a  b"},
		{"a byte 32 alone", " ", nil, "", "", ""},
		{"a byte 9 alone", "\t", nil, "", "", ""},
		{"a byte 10 alone", "\n", nil, "", "", ""},
		{"blanks alone", " \n\t\t\n ", nil, "", "", ""},
		{"byte 32 at the beginning", " a", []string{"a"}, "a", "a", "a"},
		{"byte 9 at the beginning", "\ta", []string{"a"}, "a", "a", "a"},
		{"byte 10 at the beginning", "\na", []string{"a"}, "a", "a", "a"},
		{"byte 32 at the end", "a ", []string{"a"}, "a", "a", "a "},
		{"byte 9 at the end", "a\t", []string{"a"}, "a", "a", "a\t"},
		{"byte 10 at the end", "a\n", []string{"a"}, "a", "a", "a\n"},
		{"byte 9 between", "a\tb", []string{"a", "b"}, "a b", "a\tb", "a\tb"},
		{"byte 10 between", "a\nb", []string{"a", "b"}, "a b", "a\nb", "a\nb"},
		{"runs everywhere", "\t\n a \t\nbc\n\n\td  \n", []string{"a", "bc", "d"}, "a bc d", "a \t\nbc\n\n\td", "a \t\nbc\n\n\td  \n"},
		{"words twice and out of order", "b a b", []string{"b", "a", "b"}, "b a b", "b a b", "b a b"},
		{"other control bytes", "\r a\vb\f \x00", []string{"\r", "a\vb\f", "\x00"}, "\r a\vb\f \x00", "\r a\vb\f \x00", "\r a\vb\f \x00"},
		{"wide spaces", "\u00a0a\u2003b\u0085", []string{"\u00a0a\u2003b\u0085"}, "\u00a0a\u2003b\u0085", "\u00a0a\u2003b\u0085", "\u00a0a\u2003b\u0085"},
		{"no runes", " \xff\x80\t\xc2", []string{"\xff\x80", "\xc2"}, "\xff\x80 \xc2", "\xff\x80\t\xc2", "\xff\x80\t\xc2"},
	}
}

// P1.1
func TestTexts(t *testing.T) {
	for _, c := range textCases() {
		if got := Split(c.s); !slices.Equal(got, c.split) {
			t.Errorf("%s: Split(%q) = %q, want %q", c.name, c.s, got, c.split)
		}
		if got := Strip(c.s); got != c.strip {
			t.Errorf("%s: Strip(%q) = %q, want %q", c.name, c.s, got, c.strip)
		}
		if got := Trim(c.s); got != c.trim {
			t.Errorf("%s: Trim(%q) = %q, want %q", c.name, c.s, got, c.trim)
		}
		if got := Left(c.s); got != c.left {
			t.Errorf("%s: Left(%q) = %q, want %q", c.name, c.s, got, c.left)
		}
	}
}

// P1.1
func TestJoin(t *testing.T) {
	for _, c := range []struct {
		l    []string
		want string
	}{
		{nil, ""},
		{[]string{}, ""},
		{[]string{""}, ""},
		{[]string{"a"}, "a"},
		{[]string{"a", "b", "c"}, "a b c"},
		{[]string{"", ""}, " "},
		{[]string{"", "", ""}, "  "},
		{[]string{"", "a"}, " a"},
		{[]string{"a", ""}, "a "},
		{[]string{"a", "", "b"}, "a  b"},
		{[]string{" "}, " "},
		{[]string{" a\t", "\nb"}, " a\t \nb"},
		{[]string{"\xff", "\x00"}, "\xff \x00"},
	} {
		if got := Join(c.l); got != c.want {
			t.Errorf("Join(%q) = %q, want %q", c.l, got, c.want)
		}
	}
}

// P1.1: of all bytes just three are blanks, wherever they stand.
func TestEachByte(t *testing.T) {
	for b := range 256 {
		mid := string([]byte{byte(b)})
		split, trim, left := []string{mid + "x" + mid + "y" + mid}, mid+"x"+mid+"y"+mid, mid+"x"+mid+"y"+mid
		if b == 32 || b == 9 || b == 10 {
			split, trim, left = []string{"x", "y"}, "x"+mid+"y", "x"+mid+"y"+mid
		}
		s := mid + "x" + mid + "y" + mid
		if got := Split(s); !slices.Equal(got, split) {
			t.Errorf("Split(%q) = %q, want %q", s, got, split)
		}
		if got := Trim(s); got != trim {
			t.Errorf("Trim(%q) = %q, want %q", s, got, trim)
		}
		if got := Left(s); got != left {
			t.Errorf("Left(%q) = %q, want %q", s, got, left)
		}
	}
}

// allTexts calls see with every text of at most most of the pieces.
func allTexts(pieces []string, most int, see func(string)) {
	var grow func(s string, left int)
	grow = func(s string, left int) {
		see(s)
		if left == 0 {
			return
		}
		for _, p := range pieces {
			grow(s+p, left-1)
		}
	}
	grow("", most)
}

func isBlank(r rune) bool { return strings.ContainsRune(blanks, r) }

// P1.1 and P1.2, over all short texts, held against the library.
func TestShortTexts(t *testing.T) {
	allTexts([]string{" ", "\t", "\n", "a", "\r", "\xe2"}, 6, func(s string) {
		l := Split(s)
		if want := strings.FieldsFunc(s, isBlank); !slices.Equal(l, want) {
			t.Fatalf("Split(%q) = %q, want %q", s, l, want)
		}
		if got, want := Trim(s), strings.Trim(s, blanks); got != want {
			t.Fatalf("Trim(%q) = %q, want %q", s, got, want)
		}
		if got, want := Left(s), strings.TrimLeft(s, blanks); got != want {
			t.Fatalf("Left(%q) = %q, want %q", s, got, want)
		}
		once := Strip(s)
		if want := strings.Join(l, " "); once != want {
			t.Fatalf("Strip(%q) = %q, want %q", s, once, want)
		}
		if twice := Strip(once); twice != once {
			t.Fatalf("Strip(Strip(%q)) = %q, want %q", s, twice, once)
		}
		if again := Split(Join(l)); !slices.Equal(again, l) {
			t.Fatalf("Split(Join(%q)) = %q", l, again)
		}
	})
}

// P1.2
func TestSplitOfJoin(t *testing.T) {
	for _, l := range [][]string{
		nil,
		{"a"},
		{"a", "a"},
		{"b", "a", "b"},
		{"$(a)", "%.c", "\\", "#"},
		{"\r", "\v\f", "\x00", "\xff", "\u00a0"},
		{strings.Repeat("x", 1<<16), "y"},
		strings.Split(strings.Repeat("w,", 1<<12)+"w", ","),
	} {
		if got := Split(Join(l)); !slices.Equal(got, l) {
			t.Errorf("Split(Join) of %d words is %d words, not the same", len(l), len(got))
		}
	}
}

// P1.2 speaks of words: texts that are none do not come back from Split of Join.
func TestSplitOfJoinOfOthers(t *testing.T) {
	if got := Split(Join([]string{"", "b c", "", "\td\n"})); !slices.Equal(got, []string{"b", "c", "d"}) {
		t.Errorf("Split(Join) = %q", got)
	}
}

// P1.2
func TestStripTwice(t *testing.T) {
	for _, c := range textCases() {
		once := Strip(c.s)
		if got := Strip(once); got != once {
			t.Errorf("Strip(Strip(%q)) = %q, want %q", c.s, got, once)
		}
	}
}

// R3: what is handed in stays, and lists that were answered stay apart.
func TestListsStayApart(t *testing.T) {
	in := []string{"a", "", "b "}
	Join(in)
	if !slices.Equal(in, []string{"a", "", "b "}) {
		t.Errorf("Join changed its list to %q", in)
	}
	first := Split("a b c")
	second := Split("a b c")
	second[0] = "z"
	_ = append(second[:1], "y")
	if !slices.Equal(first, []string{"a", "b", "c"}) {
		t.Errorf("a list that was answered has become %q", first)
	}
}

// The iterator may be left early, and begins anew each time.
func TestEachLeftEarly(t *testing.T) {
	walk := each(" a b c")
	for range 2 {
		var got []string
		for w := range walk {
			got = append(got, w)
			if w == "b" {
				break
			}
		}
		if !slices.Equal(got, []string{"a", "b"}) {
			t.Errorf("left at b: %q", got)
		}
	}
}
