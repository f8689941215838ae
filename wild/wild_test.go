package wild

import (
	"slices"
	"strings"
	"testing"

	"wainwright/api"
	"wainwright/vfs"
)

// of is a file system of files, and of directories: those whose path ends with a /.
func of(paths ...string) *vfs.FS {
	var l []api.Entry
	for _, p := range paths {
		l = append(l, api.Entry{Path: p, Dir: strings.HasSuffix(p, "/")})
	}
	return vfs.New(l)
}

// house is a file system for questions.
func house() *vfs.FS {
	return of("a.c", "b.c", "c.h", ".hid.c", "d/x.c", "d/y.c", "d/sub/z.c", "d/.in", "e/x.c", ".dir/x.c", ".dir/.y", "st*r", "d2", "empty/", "b/a.c", "b.d/a.c")
}

type expandCase struct {
	name, w string
	want    []string
}

func list(l ...string) []string { return l }

// checkExpand holds Expand against cases that are written out by hand.
func checkExpand(t *testing.T, f *vfs.FS, cases []expandCase) {
	t.Helper()
	for _, c := range cases {
		if got := Expand(f, c.w); !slices.Equal(got, c.want) {
			t.Errorf("%s: Expand(%q) = %q, want %q", c.name, c.w, got, c.want)
		}
		checkThere(t, f, c.w)
	}
}

// checkThere is P7.2: Look finds each thing, a word without Magic by what it quotes.
func checkThere(t *testing.T, f *vfs.FS, w string) {
	t.Helper()
	for _, name := range Expand(f, w) {
		if name == w {
			name = "/" + strings.Join(slowPlain(slowParts(w)), "/")
		}
		e, ok := f.Look(name)
		if !ok {
			t.Errorf("Expand(%q): %q is not there", w, name)
		}
		if strings.HasSuffix(name, "/") && !e.Dir {
			t.Errorf("Expand(%q): %q is no directory", w, name)
		}
	}
}

// P7.1: the document's example.
func TestExample(t *testing.T) {
	checkExpand(t, of("a.c", "b.h"), []expandCase{{"the example", "*.c", list("a.c")}})
}

// P7.1: words without parts.
func TestNoParts(t *testing.T) {
	for _, f := range []*vfs.FS{of(), house()} {
		checkExpand(t, f, []expandCase{
			{"the empty word", "", nil},
			{"/", "/", list("/")},
			{"two /", "//", list("/")},
			{"many /", "//////", list("/")},
		})
	}
}

// P7.1: words of which no part is Magic.
func TestNoMagic(t *testing.T) {
	checkExpand(t, house(), []expandCase{
		{"a file", "a.c", list("a.c")},
		{"a file in a directory", "d/x.c", list("d/x.c")},
		{"a directory", "d", list("d")},
		{"an empty directory", "empty", list("empty")},
		{"deep down", "d/sub/z.c", list("d/sub/z.c")},
		{"a dot ahead", ".hid.c", list(".hid.c")},
		{"not there", "none", nil},
		{"not there in a directory", "d/none", nil},
		{"on a way that is not there", "none/x.c", nil},
		{"behind a file", "a.c/x", nil},
		{"a part of a name", "a", nil},
		{"another case", "A.c", nil},
		{"a / ahead", "/a.c", list("/a.c")},
		{"a / ahead, not there", "/none", nil},
		{"two / ahead", "//d/x.c", list("//d/x.c")},
		{"empty parts", "d//sub///z.c", list("d//sub///z.c")},
		{"empty parts, not there", "d//none", nil},
		{"a / at the end, a directory", "d/", list("d/")},
		{"a / at the end, a file", "a.c/", list("a.c/")},
		{"a / at the end, not there", "none/", nil},
		{"/ all around", "//d///", list("//d///")},
		{"part .", ".", list(".")},
		{"part ..", "..", list("..")},
		{"parts . and ..", "./d/../a.c", list("./d/../a.c")},
		{"back from a directory", "d/..", list("d/..")},
		{"back from what is not there", "none/../a.c", list("none/../a.c")},
		{"back from a file", "a.c/../b.c", list("a.c/../b.c")},
		{"back from it all", "../../a.c", list("../../a.c")},
		{"blanks are bytes", " a.c", nil},
		{"a % is a byte", "%.c", nil},
		{"a ~ is a byte", "~", nil},
		{"another byte than /", "d\x00x.c", nil},
	})
}

// P7.1: quoted bytes, in words without Magic, and beside it.
func TestQuotes(t *testing.T) {
	f := of("st*r", "q?", "[a]", "a", `back\`, `d\/in`, "d/in", "#x", "[", "]b", "st*/r", ".hid")
	checkExpand(t, f, []expandCase{
		{"a quoted star", `st\*r`, list(`st\*r`)},
		{"a star that is not quoted", "st*r", list("st*r")},
		{"a quoted star is no wildcard", `st\*`, list(`st\*`)},
		{"a quoted star, not there", `a\*`, nil},
		{"a quoted ?", `q\?`, list(`q\?`)},
		{"a quoted ? is no wildcard", `s\?`, nil},
		{"a quoted set", `\[a]`, list(`\[a]`)},
		{"a set", "[a]", list("a")},
		{"a quoted byte that need not be", `\a`, list(`\a`)},
		{"a quoted #", `\#x`, list(`\#x`)},
		{"a quoted backslash", `back\\`, list(`back\\`)},
		{"a backslash at the end", `back\`, list(`back\`)},
		{"a backslash at the end of a part quotes nothing", `d\/in`, list(`d\/in`)},
		{"quotes in several parts, / ahead and behind", `/\s\t\*/\r/`, list(`/\s\t\*/\r/`)},
		{"quotes go from what is found", `st\*/*`, list("st*/r")},
		{"quotes behind a wildcard go", `s*/\r`, list("st*/r")},
		{"quotes in a part with a wildcard", `st\*?`, list("st*r")},
		{"a backslash at the end of a part with a wildcard", `d*\/in`, list(`d\/in`)},
		{"no quote at the end of a part", `d\/*`, list(`d\/in`)},
		{"a [ alone is not Magic", "[", list("[")},
		{"a [ and a ] in two parts", "[/]b", nil},
		{"a quoted dot", `\.hid`, list(`\.hid`)},
		{"a quoted dot ahead of a wildcard", `\.h*`, list(".hid")},
		{"a quoted .. beside a wildcard", `d/\../a*`, list("d/../a")},
		{"a quoted . beside a wildcard", `\./a*`, list("./a")},
	})
}

// P7.1: Magic parts first, in the midst and last.
func TestMagic(t *testing.T) {
	checkExpand(t, house(), []expandCase{
		{"alone", "*.c", list("a.c", "b.c")},
		{"alone, one byte", "?.c", list("a.c", "b.c")},
		{"alone, a set", "[ac].*", list("a.c", "c.h")},
		{"alone, all but a set", "[!a].c", list("b.c")},
		{"alone, none", "x*", nil},
		{"a name that looks like it", "st*r", list("st*r")},
		{"files and directories", "d*", list("d", "d2")},
		{"first", "*/x.c", list("d/x.c", "e/x.c")},
		{"first, files beside", "*/a.c", list("b.d/a.c", "b/a.c")},
		{"first, none behind", "*/none", nil},
		{"first, two behind", "?/sub/z.c", list("d/sub/z.c")},
		{"in the midst", "d/*/z.c", list("d/sub/z.c")},
		{"in the midst, none behind", "d/*/x.c", nil},
		{"in the midst, none of them", "d/q*/z.c", nil},
		{"last", "d/*.c", list("d/x.c", "d/y.c")},
		{"last, none", "d/*.h", nil},
		{"last, in an empty directory", "empty/*", nil},
		{"last, on a way that is not there", "none/*", nil},
		{"last, deep down", "d/sub/*", list("d/sub/z.c")},
		{"first and last", "?/*.c", list("b/a.c", "d/x.c", "d/y.c", "e/x.c")},
		{"all parts", "*/*/*", list("d/sub/z.c")},
		{"first and last, one between", "*/sub/*", list("d/sub/z.c")},
		{"more parts than there are", "*/*/*/*", nil},
		{"a star is not many parts", "d*z.c", nil},
	})
}

// P7.1: what is behind a file, and what is not there, is not gone on from.
func TestBehindFiles(t *testing.T) {
	checkExpand(t, house(), []expandCase{
		{"all of a file", "a.c/*", nil},
		{"all of Magic files", "*.c/*", nil},
		{"a name behind Magic files", "*.c/x", nil},
		{"all behind a name behind a file", "a.c/x/*", nil},
		{"the part . of Magic files", "*.c/.", nil},
		{"the part .. of Magic files", "*.c/..", nil},
		{"the part . of files by their names", "*/x.c/.", nil},
		{"the part .. of files by their names", "*/x.c/..", nil},
		{"back from Magic files", "*.c/../b.c", nil},
		{"all back from a file", "a.c/../*.c", nil},
		{"all of the part . of a file", "a.c/./*", nil},
		{"all back from what is not there", "none/../*.c", nil},
		{"all back from what is not there in a directory", "d/none/../*.c", nil},
		{"all back from a file in a directory", "d/x.c/../*.c", nil},
		{"a file beside directories", "d*/*.c", list("d/x.c", "d/y.c")},
	})
}

// P7.1: empty parts, and / ahead and at the end.
func TestSlashes(t *testing.T) {
	checkExpand(t, house(), []expandCase{
		{"a / ahead", "/*.c", list("/a.c", "/b.c")},
		{"two / ahead", "//*.c", list("/a.c", "/b.c")},
		{"a / ahead, a directory", "/d/*.c", list("/d/x.c", "/d/y.c")},
		{"a / ahead, none", "/x*", nil},
		{"empty parts", "d//*.c", list("d/x.c", "d/y.c")},
		{"empty parts ahead, between and behind", "///d//s*///", list("/d/sub/")},
		{"a / at the end", "*/", list("b.d/", "b/", "d/", "e/", "empty/")},
		{"two / at the end", "d*//", list("d/")},
		{"a / at the end, files alone", "*.c/", nil},
		{"a / at the end, none", "x*/", nil},
		{"a / at the end, a directory behind", "*/sub/", list("d/sub/")},
		{"a / at the end, files behind", "*/x.c/", nil},
		{"a / at both ends", "/d*/", list("/d/")},
		{"a / at the end, parts", "d/*/", list("d/sub/")},
	})
}

// P7.1: names that begin with a dot are Matched just by a part that does.
func TestDots(t *testing.T) {
	checkExpand(t, house(), []expandCase{
		{"a part with a dot", ".*", list(".dir", ".hid.c")},
		{"a part with a dot and more", ".h*", list(".hid.c")},
		{"a part without", "*", list("a.c", "b", "b.c", "b.d", "c.h", "d", "d2", "e", "empty", "st*r")},
		{"a part without, a name with a dot", "*hid.c", nil},
		{"a ? is no dot", "?hid.c", nil},
		{"a set is no dot", "[.]hid.c", nil},
		{"a directory with a dot", ".*/*.c", list(".dir/x.c")},
		{"a directory with a dot, by its name", ".dir/*", list(".dir/x.c")},
		{"both with a dot", ".*/.*", list(".dir/.y")},
		{"a file with a dot in a directory", "*/.*", list("d/.in")},
		{"a directory with a dot is left out", "*/x.c", list("d/x.c", "e/x.c")},
		{"a part with dots finds neither . nor ..", "d/.*", list("d/.in")},
		{"a part with two dots finds no ..", "..*", nil},
		{"a part with a dot and a ? finds no ..", ".?", nil},
		{"a / at the end", ".*/", list(".dir/")},
	})
}

// P7.1: parts . and .. beside Magic ones.
func TestBack(t *testing.T) {
	checkExpand(t, house(), []expandCase{
		{". ahead", "./*.c", list("./a.c", "./b.c")},
		{"./ twice ahead, and a /", "/././*.c", list("/././a.c", "/././b.c")},
		{".. ahead", "../*.h", list("../c.h")},
		{"back from a directory", "d/../*.h", list("d/../c.h")},
		{"back from two", "d/sub/../../*.h", list("d/sub/../../c.h")},
		{". between", "d/./*.c", list("d/./x.c", "d/./y.c")},
		{". and .. between, names again", "d/./sub/../../e/*", list("d/./sub/../../e/x.c")},
		{". behind", "e*/.", list("e/.", "empty/.")},
		{".. behind", "e*/..", list("e/..", "empty/..")},
		{". and / behind", "e*/./", list("e/./", "empty/./")},
		{"back from it all", "*/../../../d2", list("b.d/../../../d2", "b/../../../d2", "d/../../../d2", "e/../../../d2", "empty/../../../d2")},
		{"to a file", "d/../a*/../*", nil},
	})
}

// P7.1: the same thing found in two ways has a name by each; each name is there once.
func TestTwoWays(t *testing.T) {
	f := of("a/x", "b/", "c")
	checkExpand(t, f, []expandCase{
		{"one thing", "*/../c", list("a/../c", "b/../c")},
		{"several things", "*/../*", list("a/../a", "a/../b", "a/../c", "b/../a", "b/../b", "b/../c")},
		{"one thing, by .", "*/./../a/*", list("a/./../a/x", "b/./../a/x")},
		{"in three steps", "/?/../?/../c", list("/a/../a/../c", "/a/../b/../c", "/b/../a/../c", "/b/../b/../c")},
		{"ways that meet and part", "*/../*/", list("a/../a/", "a/../b/", "b/../a/", "b/../b/")},
		{"stars that match in many ways", "**", list("a", "b", "c")},
		{"a set that names a byte twice", "[aa]", list("a")},
	})
}

// P7.1: by bytes, whole names, with the / behind.
func TestOrder(t *testing.T) {
	f := of("\xff", "\u00e4", "\x80", "\x7f", "z", "B", "_", "a", "\xc3")
	checkExpand(t, f, []expandCase{
		{"bytes above 127", "*", list("B", "_", "a", "z", "\x7f", "\x80", "\xc3", "\u00e4", "\xff")},
		{"one byte", "?", list("B", "_", "a", "z", "\x7f", "\x80", "\xc3", "\xff")},
		{"a range of them", "[\x80-\xff]", list("\x80", "\xc3", "\xff")},
	})
	f = of("a/x", "a.b/x", "a b/x", "a0/x", "a/\xff", "a.b/\x01")
	checkExpand(t, f, []expandCase{
		{"whole names", "a*/*", list("a b/x", "a.b/\x01", "a.b/x", "a/x", "a/\xff", "a0/x")},
		{"without a / behind", "a*", list("a", "a b", "a.b", "a0")},
		{"with the / behind", "a*/", list("a b/", "a.b/", "a/", "a0/")},
		{"with what is behind", "a*/..", list("a b/..", "a.b/..", "a/..", "a0/..")},
	})
}

// P7.1: names of any bytes.
func TestAnyBytes(t *testing.T) {
	f := of(" a b\n", "\x00/\x00x", "$(x)", "%", "\xc3/\xa4")
	checkExpand(t, f, []expandCase{
		{"blanks", " *", list(" a b\n")},
		{"byte 0", "\x00/*", list("\x00/\x00x")},
		{"references are bytes", "$(*)", list("$(x)")},
		{"a %", "[%]", list("%")},
		{"half runes on both sides of a /", "\xc3*/\xa4", list("\xc3/\xa4")},
		{"half runes without Magic", "\xc3/\xa4", list("\xc3/\xa4")},
		{"a rune is none of its halves", "\u00e4*", nil},
	})
}

// P7.1: over an empty file system.
func TestEmpty(t *testing.T) {
	checkExpand(t, of(), []expandCase{
		{"a name", "a", nil},
		{"all", "*", nil},
		{"all, / around", "/*/", nil},
		{"all of /", "./*", nil},
		{"/ by .", ".", list(".")},
		{"/ by . with /", "/.//", list("/.//")},
	})
}

// P7.1
func TestAll(t *testing.T) {
	f := house()
	for _, c := range []struct {
		name        string
		words, want []string
	}{
		{"no words", nil, nil},
		{"an empty list", []string{}, nil},
		{"the empty word", list(""), nil},
		{"one word", list("*.c"), list("a.c", "b.c")},
		{"words that find nothing", list("none", "x*", "", "a.c/*"), nil},
		{"in the order of the words", list("?.h", "d/*.c", "a.c"), list("c.h", "d/x.c", "d/y.c", "a.c")},
		{"some that find nothing", list("none", "?.h", "x*", "d/*.c"), list("c.h", "d/x.c", "d/y.c")},
		{"the same word twice", list("?.h", "none", "?.h"), list("c.h", "c.h")},
		{"the same thing by two words", list("*.c", "a*", "a.c", "[ab].c"), list("a.c", "b.c", "a.c", "a.c", "a.c", "b.c")},
		{"the same thing by two names", list("/*.h", "*.h", `c\.h`), list("/c.h", "c.h", `c\.h`)},
		{"/", list("/", "//", "d/"), list("/", "/", "d/")},
		{"a word with a blank is one", list("a.c b.c"), nil},
	} {
		if got := All(f, c.words); !slices.Equal(got, c.want) {
			t.Errorf("%s: All(%q) = %q, want %q", c.name, c.words, got, c.want)
		}
	}
}
