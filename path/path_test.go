package path

import (
	gopath "path"
	"slices"
	"strings"
	"testing"
)

type nameCase struct {
	name, s                        string
	dir, notdir, suffix, base, abs string
}

// nameCases are P4.1's ordinary names and edges, written out by hand.
func nameCases() []nameCase {
	return []nameCase{
		{"empty", "", "./", "", "", "", ""},
		{"no /", "a", "./", "a", "", "a", "/a"},
		{"an ending", "a.c", "./", "a.c", ".c", "a", "/a.c"},
		{"a way and an ending", "d/a.c", "d/", "a.c", ".c", "d/a", "/d/a.c"},
		{"a longer way", "d/e/a.c", "d/e/", "a.c", ".c", "d/e/a", "/d/e/a.c"},
		{"a / at the front", "/a", "/", "a", "", "/a", "/a"},
		{"a / at the front, an ending", "/a.c", "/", "a.c", ".c", "/a", "/a.c"},
		{"a / at the end", "a/", "a/", "", "", "a/", "/a"},
		{"a / at both ends", "/a/", "/a/", "", "", "/a/", "/a"},
		{"a / alone", "/", "/", "", "", "/", "/"},
		{"several / alone", "///", "///", "", "", "///", "/"},
		{"several / at the front", "//a.c", "//", "a.c", ".c", "//a", "/a.c"},
		{"several / between", "a//b", "a//", "b", "", "a//b", "/a/b"},
		{"several / at the end", "a//", "a//", "", "", "a//", "/a"},
		{"several .", "a.b.c", "./", "a.b.c", ".c", "a.b", "/a.b.c"},
		{"several . in a row", "a..c", "./", "a..c", ".c", "a.", "/a..c"},
		{"a . at the front", ".hid", "./", ".hid", ".hid", "", "/.hid"},
		{"a . at the front of a name with a way", "d/.hid", "d/", ".hid", ".hid", "d/", "/d/.hid"},
		{"a . at the front and another", ".hid.c", "./", ".hid.c", ".c", ".hid", "/.hid.c"},
		{"a . at the end", "a.", "./", "a.", ".", "a", "/a."},
		{"a . at the end of a name with a way", "d/a.", "d/", "a.", ".", "d/a", "/d/a."},
		{"a . ahead of the last / alone", "d.x/a", "d.x/", "a", "", "d.x/a", "/d.x/a"},
		{"a . ahead of the last /, no name", "d.x/", "d.x/", "", "", "d.x/", "/d.x"},
		{"a . right ahead of the last /", "d./a", "d./", "a", "", "d./a", "/d./a"},
		{"a . on both sides of the last /", "d.x/a.c", "d.x/", "a.c", ".c", "d.x/a", "/d.x/a.c"},
		{"a . alone", ".", "./", ".", ".", "", "/"},
		{"two . alone", "..", "./", "..", ".", ".", "/"},
		{"three . alone", "...", "./", "...", ".", "..", "/..."},
		{"a part .", "./a", "./", "a", "", "./a", "/a"},
		{"a part . between", "a/./b", "a/./", "b", "", "a/./b", "/a/b"},
		{"a part . at the end", "a/.", "a/", ".", ".", "a/", "/a"},
		{"a part ..", "a/../b", "a/../", "b", "", "a/../b", "/b"},
		{"a part .. at the end", "a/b/..", "a/b/", "..", ".", "a/b/.", "/a"},
		{"a part .. with nothing left", "a/..", "a/", "..", ".", "a/.", "/"},
		{"a part .. behind an empty one", "a/b//../c", "a/b//../", "c", "", "a/b//../c", "/a/c"},
		{"a part .. behind a .", "a/b/./../c", "a/b/./../", "c", "", "a/b/./../c", "/a/c"},
		{"a part .. behind ..", "a/b/../../c", "a/b/../../", "c", "", "a/b/../../c", "/c"},
		{"a part .. at the front", "../a", "../", "a", "", "../a", "/a"},
		{"a part .. right behind the front's /", "/../a", "/../", "a", "", "/../a", "/a"},
		{"two parts .. at the front", "../../x", "../../", "x", "", "../../x", "/x"},
		{"more .. than there are parts", "a/../../../b", "a/../../../", "b", "", "a/../../../b", "/b"},
		{"more .. than there are parts, and nothing", "/a/b/../../..", "/a/b/../../", "..", ".", "/a/b/../../.", "/"},
		{"parts of three .", "a/.../b", "a/.../", "b", "", "a/.../b", "/a/.../b"},
		{"parts that begin and end like ..", "..a/b../c", "..a/b../", "c", "", "..a/b../c", "/..a/b../c"},
		{"pushed and cut by turns", "a/b/../c/d/../../e/f", "a/b/../c/d/../../e/", "f", "", "a/b/../c/d/../../e/f", "/a/e/f"},
		{"all at once", "a/b/../../c/./d//", "a/b/../../c/./d//", "", "", "a/b/../../c/./d//", "/c/d"},
		{"blanks and wildcards", "a b/*.c ", "a b/", "*.c ", ".c ", "a b/*", "/a b/*.c "},
		{"a blank name", " ", "./", " ", "", " ", "/ "},
		{"backslashes", `a\/b\.c`, `a\/`, `b\.c`, ".c", `a\/b\`, `/a\/b\.c`},
		{"no runes", "\xff/\x00.\xc2", "\xff/", "\x00.\xc2", ".\xc2", "\xff/\x00", "/\xff/\x00.\xc2"},
		{"runes of several bytes", "\u00e4/\u2044.\u00fc", "\u00e4/", "\u2044.\u00fc", ".\u00fc", "\u00e4/\u2044", "/\u00e4/\u2044.\u00fc"},
	}
}

// P4.1
func TestNames(t *testing.T) {
	for _, c := range nameCases() {
		if got := Dir(c.s); got != c.dir {
			t.Errorf("%s: Dir(%q) = %q, want %q", c.name, c.s, got, c.dir)
		}
		if got := Notdir(c.s); got != c.notdir {
			t.Errorf("%s: Notdir(%q) = %q, want %q", c.name, c.s, got, c.notdir)
		}
		if got := Suffix(c.s); got != c.suffix {
			t.Errorf("%s: Suffix(%q) = %q, want %q", c.name, c.s, got, c.suffix)
		}
		if got := Base(c.s); got != c.base {
			t.Errorf("%s: Base(%q) = %q, want %q", c.name, c.s, got, c.base)
		}
		if got := Abs(c.s); got != c.abs {
			t.Errorf("%s: Abs(%q) = %q, want %q", c.name, c.s, got, c.abs)
		}
	}
}

// checkWhole is P4.2 of one name.
func checkWhole(t *testing.T, s string) {
	t.Helper()
	want := s
	if !strings.Contains(s, "/") {
		want = "./" + s
	}
	if got := Dir(s) + Notdir(s); got != want {
		t.Fatalf("Dir and Notdir of %q are %q, want %q", s, got, want)
	}
	if got := Base(s) + Suffix(s); got != s {
		t.Fatalf("Base and Suffix of %q are %q", s, got)
	}
	once := Abs(s)
	if twice := Abs(once); twice != once {
		t.Fatalf("Abs(Abs(%q)) = %q, want %q", s, twice, once)
	}
}

// P4.2
func TestWhole(t *testing.T) {
	for _, c := range nameCases() {
		checkWhole(t, c.s)
	}
}

// allTexts calls see with every text of at most most of the pieces.
func allTexts(pieces []string, most int, see func(string)) {
	var grow func(s string, left int)
	grow = func(s string, left int) {
		see(s)
		if left == 0 {
			return
		}
		for _, p := range pieces {
			grow(s+p, left-1)
		}
	}
	grow("", most)
}

// checkByLibrary holds P4.1 of one name against the library, whose names differ for no way and for the empty text alone.
func checkByLibrary(t *testing.T, s string) {
	t.Helper()
	dir, notdir := gopath.Split(s)
	if dir == "" {
		dir = "./"
	}
	suffix, abs := gopath.Ext(s), ""
	if s != "" {
		abs = gopath.Clean("/" + s)
	}
	got := [...]string{Dir(s), Notdir(s), Suffix(s), Base(s), Abs(s)}
	want := [...]string{dir, notdir, suffix, strings.TrimSuffix(s, suffix), abs}
	if got != want {
		t.Fatalf("%q: Dir, Notdir, Suffix, Base, Abs are %q, want %q", s, got, want)
	}
}

// P4.1 and P4.2, over all short names.
func TestShortNames(t *testing.T) {
	allTexts([]string{"/", ".", "a", "\xe2"}, 7, func(s string) {
		checkByLibrary(t, s)
		checkWhole(t, s)
	})
}

// P4.1 and P4.2, over all names of a few parts.
func TestShortWays(t *testing.T) {
	allTexts([]string{"/", "../", "./", "a/", "b.c/"}, 6, func(s string) {
		for _, last := range []string{"", "x.y", ".."} {
			checkByLibrary(t, s+last)
			checkWhole(t, s+last)
		}
	})
}

// P4.1: of all bytes just / and . are more than a name's.
func TestEachByte(t *testing.T) {
	for b := range 256 {
		mid := string([]byte{byte(b)})
		for _, s := range []string{mid, mid + "x", "x" + mid, "x" + mid + "y", "d/" + mid + "/e", "d.e/x" + mid + "y"} {
			checkByLibrary(t, s)
			checkWhole(t, s)
		}
	}
}

// R1: a long name is told in the end, also one that cuts and pushes far from the front.
func TestLongNames(t *testing.T) {
	const many = 1 << 18
	for _, s := range []string{
		strings.Repeat("a/", many) + strings.Repeat("../b/", many),
		strings.Repeat("a/", many) + strings.Repeat("../", many+1),
		strings.Repeat("../", many) + "x.c",
		strings.Repeat("/", many),
		strings.Repeat(".", many),
		strings.Repeat("x", many),
	} {
		checkByLibrary(t, s)
		checkWhole(t, s)
	}
}

// The pile stays off the parts that are still to come, and off what stands behind the list of parts.
func TestSettle(t *testing.T) {
	room := []string{"a", "..", "..", "b", "c", ".", "", "d", "..", "e", "behind"}
	if got := settle(room[:10]); !slices.Equal(got, []string{"b", "c", "e"}) {
		t.Errorf("settle = %q", got)
	}
	if room[10] != "behind" {
		t.Errorf("what stands behind the parts has become %q", room[10])
	}
}
