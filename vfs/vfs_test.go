package vfs

import (
	"slices"
	"strconv"
	"strings"
	"testing"

	"wainwright/api"
	"wainwright/path"
)

func file(p, text string) api.Entry { return api.Entry{Path: p, Text: text} }

func dir(p string) api.Entry { return api.Entry{Path: p, Dir: true} }

// texted is a directory that is handed in with a Text, which it must lose.
func texted(p string) api.Entry { return api.Entry{Path: p, Dir: true, Text: "lost"} }

func of(l ...api.Entry) []api.Entry { return l }

type newCase struct {
	name    string
	l, want []api.Entry
}

// ordinaryCases are P6.1's ordinary files and directories.
func ordinaryCases() []newCase {
	return []newCase{
		{"the document's example", of(file("a/b", "")), of(dir("/a"), file("/a/b", ""))},
		{"a file", of(file("a", "text")), of(file("/a", "text"))},
		{"an empty file", of(file("a", "")), of(file("/a", ""))},
		{"a directory", of(dir("a")), of(dir("/a"))},
		{"a file and a directory", of(file("b", "1"), dir("a")), of(dir("/a"), file("/b", "1"))},
		{"a file in a directory that is there", of(dir("d"), file("d/x", "1")), of(dir("/d"), file("/d/x", "1"))},
		{"a directory in a directory that is there", of(dir("d"), dir("d/e")), of(dir("/d"), dir("/d/e"))},
		{"the same name in two directories", of(file("a/x", "1"), file("b/x", "2")), of(dir("/a"), file("/a/x", "1"), dir("/b"), file("/b/x", "2"))},
		{"the same name above and below", of(file("x/x/x", "1")), of(dir("/x"), dir("/x/x"), file("/x/x/x", "1"))},
		{"any bytes", of(file("\xff/\x00", "\xc2\n"), dir("a b*%$\\")), of(dir(`/a b*%$\`), dir("/\xff"), file("/\xff/\x00", "\xc2\n"))},
		{"names of case", of(file("A", "1"), file("a", "2")), of(file("/A", "1"), file("/a", "2"))},
		{"names that begin alike", of(file("ab", "1"), file("a/b", "2"), file("a.b", "3")), of(dir("/a"), file("/a.b", "3"), file("/a/b", "2"), file("/ab", "1"))},
	}
}

// edgeCases are the edges of P6.1 that the chapter names.
func edgeCases() []newCase {
	return []newCase{
		{"no entries", nil, nil},
		{"an empty list", []api.Entry{}, nil},
		{"an empty path", of(file("", "1")), nil},
		{"an empty path of a directory", of(dir("")), nil},
		{"an empty path between others", of(file("a", "1"), file("", "2"), file("b", "3")), of(file("/a", "1"), file("/b", "3"))},
		{"the path /", of(file("/", "1"), dir("/"), texted("/")), nil},
		{"paths that come to /", of(file("//", "1"), file(".", "2"), file("..", "3"), file("a/..", "4"), dir("./../.")), nil},
		{"nothing of a / that is left out stays in the way", of(file("/", "1"), file("a", "2")), of(file("/a", "2"))},
		{"a file that is there already", of(file("a", "1"), file("a", "2")), of(file("/a", "1"))},
		{"the same file twice", of(file("a", "1"), file("a", "1")), of(file("/a", "1"))},
		{"a directory that is there already", of(dir("a"), dir("a")), of(dir("/a"))},
		{"a directory where a file is", of(file("a", "1"), dir("a")), of(file("/a", "1"))},
		{"a file where a directory is", of(dir("a"), file("a", "1")), of(dir("/a"))},
		{"a file where a way is", of(file("a/b", "1"), file("a", "2")), of(dir("/a"), file("/a/b", "1"))},
		{"a directory where a way is", of(file("a/b", "1"), dir("a")), of(dir("/a"), file("/a/b", "1"))},
		{"a directory that is there already stays full", of(file("a/b", "1"), dir("a"), file("a/c", "2")), of(dir("/a"), file("/a/b", "1"), file("/a/c", "2"))},
		{"there already, written otherwise", of(file("a", "1"), file("/a", "2"), file("./a", "3"), file("b/../a//", "4")), of(file("/a", "1"))},
		{"a file deep down that is there already", of(file("a/b/c", "1"), file("a/b/c", "2")), of(dir("/a"), dir("/a/b"), file("/a/b/c", "1"))},
		{"a file below a file", of(file("a", "1"), file("a/b", "2")), of(file("/a", "1"))},
		{"a directory below a file", of(file("a", "1"), dir("a/b")), of(file("/a", "1"))},
		{"far below a file", of(file("a", "1"), file("a/b/c/d", "2"), dir("a/b/c")), of(file("/a", "1"))},
		{"below a file in a directory", of(file("d/a", "1"), file("d/a/b/c", "2"), dir("d/a/b")), of(dir("/d"), file("/d/a", "1"))},
		{"below an empty file", of(file("a", ""), file("a/b", "2")), of(file("/a", ""))},
		{"a file's name below a file", of(file("a", "1"), file("a/a", "2")), of(file("/a", "1"))},
		{"a file, and its way would go through /", of(file("a", "1"), file("b", "2"), file("a/../b/c", "3")), of(file("/a", "1"), file("/b", "2"))},
		{"beside a file, by ..", of(file("a", "1"), file("a/../b", "2")), of(file("/a", "1"), file("/b", "2"))},
		{"behind one that was left out", of(file("a", "1"), file("a/b", "2"), file("c", "3")), of(file("/a", "1"), file("/c", "3"))},
		{"a way that is not there yet", of(file("a/b/c", "1")), of(dir("/a"), dir("/a/b"), file("/a/b/c", "1"))},
		{"a way of a directory that is not there yet", of(dir("a/b/c")), of(dir("/a"), dir("/a/b"), dir("/a/b/c"))},
		{"a way that is there in part", of(dir("a"), file("a/b/c", "1")), of(dir("/a"), dir("/a/b"), file("/a/b/c", "1"))},
		{"two ways that part", of(file("a/b/c", "1"), file("a/d/c", "2")), of(dir("/a"), dir("/a/b"), file("/a/b/c", "1"), dir("/a/d"), file("/a/d/c", "2"))},
		{"a directory with a Text", of(texted("a")), of(dir("/a"))},
		{"a directory with a Text, deep down", of(texted("a/b"), file("a/b/c", "1")), of(dir("/a"), dir("/a/b"), file("/a/b/c", "1"))},
		{"the way of a file has not its Text", of(file("a/b", "1")), of(dir("/a"), file("/a/b", "1"))},
		{"empty parts", of(file("//a///b//", "1")), of(dir("/a"), file("/a/b", "1"))},
		{"parts .", of(file("./a/./b/.", "1")), of(dir("/a"), file("/a/b", "1"))},
		{"parts ..", of(file("x/../y/z", "1")), of(dir("/y"), file("/y/z", "1"))},
		{"parts .. at the front", of(file("../../a", "1")), of(file("/a", "1"))},
		{"a part that .. takes is not made", of(dir("x/..")), nil},
		{"parts of more dots", of(file(".../..a", "1")), of(dir("/..."), file("/.../..a", "1"))},
		{"a / at the end is no directory", of(file("a/", "1")), of(file("/a", "1"))},
	}
}

// checkAll holds what is there against what must be.
func checkAll(t *testing.T, name string, f *FS, want []api.Entry) {
	t.Helper()
	if got := f.All(); !slices.Equal(got, want) {
		t.Errorf("%s: All is %+v, want %+v", name, got, want)
	}
}

// checkEach asks for each thing of All on its own, and for what each directory holds.
func checkEach(t *testing.T, name string, f *FS) {
	t.Helper()
	in := map[string][]string{"/": nil}
	for _, e := range f.All() {
		if got, ok := f.Look(e.Path); !ok || got != e {
			t.Errorf("%s: Look(%q) = %+v, %v, want %+v", name, e.Path, got, ok, e)
		}
		if e.Dir {
			in[e.Path] = nil
		} else if got := f.List(e.Path); len(got) != 0 {
			t.Errorf("%s: List of the file %q is %q", name, e.Path, got)
		}
	}
	for _, e := range f.All() {
		at := strings.LastIndexByte(e.Path, '/')
		way := e.Path[:max(at, 1)]
		in[way] = append(in[way], e.Path[at+1:])
	}
	for p, want := range in {
		slices.Sort(want)
		if got := f.List(p); !slices.Equal(got, want) {
			t.Errorf("%s: List(%q) = %q, want %q", name, p, got, want)
		}
	}
	if got, ok := f.Look("/"); !ok || got != dir("/") {
		t.Errorf("%s: Look of / is %+v, %v", name, got, ok)
	}
}

// P6.1 and P6.2
func TestNew(t *testing.T) {
	for _, c := range append(ordinaryCases(), edgeCases()...) {
		f := New(c.l)
		checkAll(t, c.name, f, c.want)
		checkEach(t, c.name, f)
		again := New(f.All())
		checkAll(t, c.name+", New of All", again, c.want)
		checkEach(t, c.name+", New of All", again)
	}
}

// numbered is n files, named by their numbers.
func numbered(n int) []api.Entry {
	var l []api.Entry
	for i := range n {
		l = append(l, file("f"+strconv.Itoa(1000+i), strconv.Itoa(i)))
	}
	return l
}

// P6.1: the first MaxEntries of the list, whatever becomes of them.
func TestMaxEntries(t *testing.T) {
	const most = api.MaxEntries
	wide := func(n int) []api.Entry {
		l := numbered(n)
		for i := range l {
			l[i].Path = "/" + l[i].Path
		}
		return l
	}
	none := slices.Repeat(of(file("", "")), most-1)
	same := slices.Repeat(of(file("a", "1")), most)
	late, early := file("late", "1"), file("/late", "1")
	for _, c := range []newCase{
		{"one fewer", numbered(most - 1), wide(most - 1)},
		{"as many", numbered(most), wide(most)},
		{"one more", numbered(most + 1), wide(most)},
		{"far more", numbered(3 * most), wide(most)},
		{"the last one behind those that are left out", append(slices.Clone(none), late), of(early)},
		{"one more behind those that are left out", append(slices.Clone(none), file("", ""), late), nil},
		{"one more behind those that are there already", append(slices.Clone(same), late), of(file("/a", "1"))},
		{"not sorted ahead of being counted", append(numbered(most), file("a", "1")), wide(most)},
	} {
		f := New(c.l)
		checkAll(t, c.name, f, c.want)
		checkAll(t, c.name+", New of All", New(f.All()), c.want)
	}
	if e, ok := New(numbered(most + 1)).Look("f" + strconv.Itoa(1000+most)); ok || e != (api.Entry{}) {
		t.Errorf("one more is there: %+v", e)
	}
}

// P6.1: MaxEntries counts what is handed in, not what is there then; so New of
// a longer All has the first of it alone.
func TestMoreThanMaxEntriesThere(t *testing.T) {
	const deep = api.MaxEntries + 50
	var want []api.Entry
	for i := range deep {
		want = append(want, dir(strings.Repeat("/d", i+1)))
	}
	f := New(of(dir(strings.Repeat("d/", deep))))
	checkAll(t, "deep", f, want)
	checkEach(t, "deep", f)
	checkAll(t, "deep, New of All", New(f.All()), want[:api.MaxEntries])
}

// house is a file system for questions.
func house() *FS {
	return New(of(file("d/b", "text"), file("d/a", ""), texted("d/e"), file("top", "T"), file("d/e/deep", "x"), dir("empty"), file(".hid", "h"), file("d/\xff", "1"), file("d/\x80", "2"), file("d/\x7f", "3"), file("d/z", "4"), file("d/\u00e4", "5"), file("d/B", "6")))
}

// P6.1
func TestLook(t *testing.T) {
	f := house()
	for _, c := range []struct {
		p    string
		want api.Entry
	}{
		{"/", dir("/")},
		{"//", dir("/")},
		{".", dir("/")},
		{"..", dir("/")},
		{"d/..", dir("/")},
		{"nowhere/..", dir("/")},
		{"/d", dir("/d")},
		{"d", dir("/d")},
		{"d/", dir("/d")},
		{"/d/e/..", dir("/d")},
		{"/d/e", dir("/d/e")},
		{"/empty", dir("/empty")},
		{"/top", file("/top", "T")},
		{"top", file("/top", "T")},
		{"top/", file("/top", "T")},
		{"top/.", file("/top", "T")},
		{"../top", file("/top", "T")},
		{"nowhere/../top", file("/top", "T")},
		{"top/x/..", file("/top", "T")},
		{".hid", file("/.hid", "h")},
		{"/d/b", file("/d/b", "text")},
		{"d/./..//d/b", file("/d/b", "text")},
		{"d/a", file("/d/a", "")},
		{"/d/e/deep", file("/d/e/deep", "x")},
		{"d/\xff", file("/d/\xff", "1")},
	} {
		if got, ok := f.Look(c.p); !ok || got != c.want {
			t.Errorf("Look(%q) = %+v, %v, want %+v", c.p, got, ok, c.want)
		}
	}
	for _, p := range []string{"", "x", "/x", "d/x", "d/e/x", "D", "b", "deep", "e", "top/x", "top/top", "d/b/c", "x/y/z", "empty/x", "d/bb", "d b", "dd", " ", " d", "d ", "d\x00", "*", "d/*", "d/\xfe", "d/\ufffd", "hid", "/..."} {
		if got, ok := f.Look(p); ok || got != (api.Entry{}) {
			t.Errorf("Look(%q) = %+v, %v", p, got, ok)
		}
	}
}

// P6.1
func TestList(t *testing.T) {
	f := house()
	top := []string{".hid", "d", "empty", "top"}
	inside := []string{"B", "a", "b", "e", "z", "\x7f", "\x80", "\u00e4", "\xff"}
	for _, c := range []struct {
		p    string
		want []string
	}{
		{"/", top},
		{".", top},
		{"d/../..", top},
		{"/d", inside},
		{"d", inside},
		{"d/", inside},
		{"./x/..//d/.", inside},
		{"/d/e", []string{"deep"}},
		{"/empty", nil},
		{"", nil},
		{"/top", nil},
		{"top/", nil},
		{"top/x", nil},
		{"/d/b", nil},
		{"/d/e/deep", nil},
		{"/x", nil},
		{"d/x", nil},
		{"D", nil},
		{"e", nil},
		{"*", nil},
	} {
		if got := f.List(c.p); !slices.Equal(got, c.want) {
			t.Errorf("List(%q) = %q, want %q", c.p, got, c.want)
		}
	}
}

// P6.1: each byte that a name may have has its place, in List and in All.
func TestEachByte(t *testing.T) {
	// In two halves, as all of them are more than MaxEntries.
	for half := range 2 {
		var all []api.Entry
		var names []string
		for b := half; b < 256; b += 2 {
			if name := "x" + string([]byte{byte(b)}); b != '/' {
				names = append(names, name)
				all = append(all, file("/"+name, name))
			}
		}
		l := slices.Clone(all)
		slices.Reverse(l)
		f := New(l)
		if got := f.List("/"); !slices.Equal(got, names) {
			t.Errorf("List = %q, want %q", got, names)
		}
		checkAll(t, "each byte", f, all)
	}
}

// P6.1: All goes by paths' bytes, not directory by directory: a / is one of the bytes.
func TestAllByBytes(t *testing.T) {
	f := New(of(file("a/x", "1"), file("a0", "2"), dir("a.b"), file("a\xff", "3"), file("a b/x", "4"), file("a.b/c", "5"), file("B", "6")))
	checkAll(t, "by bytes", f, of(file("/B", "6"), dir("/a"), dir("/a b"), file("/a b/x", "4"), dir("/a.b"), file("/a.b/c", "5"), file("/a/x", "1"), file("/a0", "2"), file("/a\xff", "3")))
}

// P6.2: of two entries of one path the first one wins, in both orders.
func TestFirstWins(t *testing.T) {
	for _, c := range []struct {
		name     string
		a, b     api.Entry
		ofA, ofB api.Entry
	}{
		{name: "two files", a: file("a", "1"), b: file("a", "2"), ofA: file("/a", "1"), ofB: file("/a", "2")},
		{name: "a file and a directory", a: file("a", "1"), b: dir("a"), ofA: file("/a", "1"), ofB: dir("/a")},
		{name: "an empty file and a directory", a: file("a", ""), b: texted("a"), ofA: file("/a", ""), ofB: dir("/a")},
		{name: "written otherwise", a: file("./a", "1"), b: file("x/../a/", "2"), ofA: file("/a", "1"), ofB: file("/a", "2")},
		{name: "deep down", a: file("d/e/a", "1"), b: dir("/d/e/a"), ofA: file("/d/e/a", "1"), ofB: dir("/d/e/a")},
	} {
		for i, want := range []api.Entry{c.ofA, c.ofB} {
			l := of(c.a, c.b)
			if i == 1 {
				l = of(c.b, c.a)
			}
			if got, ok := New(l).Look(want.Path); !ok || got != want {
				t.Errorf("%s, %d: Look = %+v, %v, want %+v", c.name, i, got, ok, want)
			}
		}
	}
}

// slow is P6.1 read word by word, by a list of all that is there.
func slow(l []api.Entry) []api.Entry {
	there := of(dir("/"))
	at := func(p string) int {
		return slices.IndexFunc(there, func(e api.Entry) bool { return e.Path == p })
	}
	for _, e := range l[:min(len(l), api.MaxEntries)] {
		abs := path.Abs(e.Path)
		if abs == "" || at(abs) >= 0 {
			continue
		}
		var way []string
		for i := 1; i < len(abs); i++ {
			if abs[i] == '/' {
				way = append(way, abs[:i])
			}
		}
		if slices.ContainsFunc(way, func(p string) bool { return at(p) >= 0 && !there[at(p)].Dir }) {
			continue
		}
		for _, p := range way {
			if at(p) < 0 {
				there = append(there, dir(p))
			}
		}
		if e.Dir {
			there = append(there, dir(abs))
		} else {
			there = append(there, file(abs, e.Text))
		}
	}
	there = there[1:]
	slices.SortFunc(there, func(a, b api.Entry) int { return strings.Compare(a.Path, b.Path) })
	return there
}

// allLists calls see with every list of at most most of the entries.
func allLists(entries []api.Entry, most int, see func([]api.Entry)) {
	var grow func(l []api.Entry, left int)
	grow = func(l []api.Entry, left int) {
		see(l)
		if left == 0 {
			return
		}
		for _, e := range entries {
			grow(append(slices.Clone(l), e), left-1)
		}
	}
	grow(nil, most)
}

// P6.1 and P6.2, over all short lists of a few entries.
func TestShortLists(t *testing.T) {
	entries := of(file("", "1"), file("/", "2"), file("a", "3"), dir("a"), file("a/b", "4"), texted("/a/b/"), file("a/b/c", "5"), dir("a/c"), file("a.b", "6"), file("b/./c/d", "7"), file("c/../b", "8"))
	probes := []string{"", "/", "a", "a/b", "a/b/c", "a/c", "a.b", "b", "b/c", "b/c/d", "c", "/a/b/..", "a/b/c/d"}
	allLists(entries, 4, func(l []api.Entry) {
		f, want := New(l), slow(l)
		if got := f.All(); !slices.Equal(got, want) {
			t.Fatalf("New(%+v): All is %+v, want %+v", l, got, want)
		}
		if got := New(want).All(); !slices.Equal(got, want) {
			t.Fatalf("New of All %+v is %+v", want, got)
		}
		for _, p := range probes {
			checkProbe(t, f, append(of(dir("/")), want...), p)
		}
	})
}

// checkProbe holds Look and List of one path against a list of all that is there.
func checkProbe(t *testing.T, f *FS, there []api.Entry, p string) {
	t.Helper()
	var want api.Entry
	var names []string
	abs := path.Abs(p)
	for _, e := range there {
		if e.Path == abs {
			want = e
		}
	}
	for _, e := range there[1:] {
		if way := strings.TrimSuffix(path.Dir(e.Path), "/"); abs != "" && way == strings.TrimSuffix(abs, "/") {
			names = append(names, path.Notdir(e.Path))
		}
	}
	slices.Sort(names)
	if got, ok := f.Look(p); got != want || ok != (want.Path != "") {
		t.Fatalf("%+v: Look(%q) = %+v, %v, want %+v", there, p, got, ok, want)
	}
	if got := f.List(p); !slices.Equal(got, names) {
		t.Fatalf("%+v: List(%q) = %q, want %q", there, p, got, names)
	}
}

// R1: a long way is laid down and found in the end, and so is what lies below a file.
func TestLongWays(t *testing.T) {
	const deep = 1 << 16
	way := strings.Repeat("/d", deep)
	f := New(of(file(way+"/x", "1"), file(way+"/x/y", "2"), file(way+"/z", "3")))
	if got := f.List(way); !slices.Equal(got, []string{"x", "z"}) {
		t.Errorf("List = %q", got)
	}
	if got, ok := f.Look(way + "/x"); !ok || got != file(way+"/x", "1") {
		t.Error("the file is not there")
	}
	if got, ok := f.Look(way[:deep]); !ok || got != dir(way[:deep]) {
		t.Error("what lies half way is not there")
	}
	if _, ok := f.Look(way + "/x/y"); ok {
		t.Error("what lies below the file is there")
	}
	if got := f.List(strings.Repeat("d/", deep) + strings.Repeat("../", deep)); !slices.Equal(got, []string{"d"}) {
		t.Errorf("List of / is %q", got)
	}
}

// R3: what is handed in stays as it is, and what becomes of it later is not seen.
func TestHandedIn(t *testing.T) {
	room := of(texted("./a//b"), file("a/c", "1"), file("a/c", "2"), file("behind", "3"))
	was := slices.Clone(room)
	f := New(room[:3])
	want := of(dir("/a"), dir("/a/b"), file("/a/c", "1"))
	checkAll(t, "ahead", f, want)
	if !slices.Equal(room, was) {
		t.Errorf("what was handed in has become %+v", room)
	}
	clear(room)
	checkAll(t, "behind", f, want)
}

// R3 and R4: an answer is new memory, and a question changes nothing.
func TestAnswers(t *testing.T) {
	f := house()
	all, list := f.All(), f.List("d")
	wasAll, wasList := slices.Clone(all), slices.Clone(list)
	spoilAll, spoilList := f.All(), f.List("d")
	for i := range spoilAll {
		spoilAll[i] = file("spoilt", "spoilt")
	}
	for i := range spoilList {
		spoilList[i] = "spoilt"
	}
	_, _ = append(spoilAll, dir("more")), append(spoilList, "more")
	f.Look("d/nowhere/x")
	f.List("nowhere/x")
	if !slices.Equal(all, wasAll) || !slices.Equal(list, wasList) {
		t.Error("an answer was changed later")
	}
	checkAll(t, "later", f, wasAll)
	if got := f.List("d"); !slices.Equal(got, wasList) {
		t.Errorf("List is %q later", got)
	}
}

// R4: two file systems have nothing in common.
func TestApart(t *testing.T) {
	one := New(of(file("a/b", "1")))
	other := New(of(file("a/c", "2"), dir("d")))
	checkAll(t, "one", one, of(dir("/a"), file("/a/b", "1")))
	checkAll(t, "other", other, of(dir("/a"), file("/a/c", "2"), dir("/d")))
}
