package lists

import (
	"math"
	"slices"
	"strconv"
	"strings"
	"testing"

	"wainwright/pattern"
)

// check holds one answer against what it must be; nil and an empty list are one.
func check(t *testing.T, name string, got, want []string) {
	t.Helper()
	if !slices.Equal(got, want) {
		t.Errorf("%s: %q, want %q", name, got, want)
	}
}

// of is the words of a text, parted by one blank each; the empty text is no word.
func of(s string) []string {
	if s == "" {
		return nil
	}
	return strings.Split(s, " ")
}

// P5.1
func TestSort(t *testing.T) {
	for _, c := range []struct {
		name    string
		l, want []string
	}{
		{"none", nil, nil},
		{"an empty list", []string{}, nil},
		{"one", of("a"), of("a")},
		{"ordinary", of("foo bar lose"), of("bar foo lose")},
		{"sorted already", of("a b c"), of("a b c")},
		{"from behind", of("c b a"), of("a b c")},
		{"the same twice, side by side", of("a a b"), of("a b")},
		{"the same twice, apart", of("a b a"), of("a b")},
		{"all the same", of("a a a a"), of("a")},
		{"several more than once", of("c b a b c a c"), of("a b c")},
		{"by length alone", of("aaa a aa"), of("a aa aaa")},
		{"length comes behind bytes", of("b aa"), of("aa b")},
		{"an empty word", []string{"a", "", "b", ""}, []string{"", "a", "b"}},
		{"case by bytes", of("b a B A _"), of("A B _ a b")},
		{"digits as bytes", of("10 9 2 1"), of("1 10 2 9")},
		{"a byte above 127", []string{"\xff", "z", "\x80", "\x7f"}, []string{"z", "\x7f", "\x80", "\xff"}},
		{"a byte above 127 behind others", []string{"a\xc3", "a\xc2", "ab", "a\x80"}, []string{"ab", "a\x80", "a\xc2", "a\xc3"}},
		{"bytes, not runes", []string{"\xee\x80\x80", "\xf0\x90\x80\x80", "\xff"}, []string{"\xee\x80\x80", "\xf0\x90\x80\x80", "\xff"}},
		{"no rune is as another", []string{"\xfe", "\xff", "\ufffd"}, []string{"\ufffd", "\xfe", "\xff"}},
		{"byte 0", []string{"a\x00", "a", "\x00", ""}, []string{"", "\x00", "a", "a\x00"}},
		{"blanks inside", []string{"a b", "a\tb", "a\nb", "ab"}, []string{"a\tb", "a\nb", "a b", "ab"}},
	} {
		check(t, c.name, Sort(c.l), c.want)
	}
}

// P5.1: each of the 256 bytes has its place.
func TestSortEachByte(t *testing.T) {
	var l, want []string
	for b := range 256 {
		want = append(want, "x"+string([]byte{byte(b)}))
		l = append(l, "x"+string([]byte{byte(b * 85)}), "x"+string([]byte{byte(b)}))
	}
	check(t, "all bytes", Sort(l), want)
}

// P5.1 and R1: many words.
func TestSortMany(t *testing.T) {
	const many = 1 << 16
	var l []string
	for i := range many {
		l = append(l, strconv.Itoa(i*40503%many/2))
	}
	got := Sort(l)
	if len(got) != many/2 {
		t.Fatalf("%d words, want %d", len(got), many/2)
	}
	for i := range got[1:] {
		if got[i] >= got[i+1] {
			t.Fatalf("%q stands ahead of %q", got[i], got[i+1])
		}
	}
}

// P5.1 and P5.2
func TestFilter(t *testing.T) {
	all := of("a.c b.h a.c lib.c % x% README")
	for _, c := range []struct {
		name             string
		patterns, l      []string
		matched, without []string
	}{
		{"the document's example", of("%.c"), of("a.c b.h"), of("a.c"), of("b.h")},
		{"no pattern", nil, all, nil, all},
		{"an empty list of patterns", []string{}, all, nil, all},
		{"no word", of("%"), nil, nil, nil},
		{"neither", nil, nil, nil, nil},
		{"one with a %", of("%.c"), all, of("a.c a.c lib.c"), of("b.h % x% README")},
		{"one without a %", of("README"), all, of("README"), of("a.c b.h a.c lib.c % x%")},
		{"one without a %, of a word that is there twice", of("a.c"), all, of("a.c a.c"), of("b.h lib.c % x% README")},
		{"one that matches all", of("%"), all, all, nil},
		{"one that matches none", of("%.o"), all, nil, all},
		{"a part of a word is none", of("lib READ"), all, nil, all},
		{"several with a %", of("%.h lib%"), all, of("b.h lib.c"), of("a.c a.c % x% README")},
		{"several without a %", of("README b.h"), all, of("b.h README"), of("a.c a.c lib.c % x%")},
		{"several of both kinds", of("b.h %.c"), all, of("a.c b.h a.c lib.c"), of("% x% README")},
		{"the last of several", of("no none %.h"), all, of("b.h"), of("a.c a.c lib.c % x% README")},
		{"several that match one word", of("%.c a% a.c"), all, of("a.c a.c lib.c"), of("b.h % x% README")},
		{"the same pattern twice", of("%.h %.h"), all, of("b.h"), of("a.c a.c lib.c % x% README")},
		{"the list's order, not the patterns'", of("c b a"), of("a b c b"), of("a b c b"), nil},
		{"a % that stands for itself", of(`\%`), all, of("%"), of("a.c b.h a.c lib.c x% README")},
		{"a % that stands for itself behind another text", of(`x\%`), all, of("x%"), of("a.c b.h a.c lib.c % README")},
		{"halved backslashes", of(`\\%`), []string{`\a`, "a", `\\%`}, []string{`\a`, `\\%`}, of("a")},
		{"a second % stands for itself", of("%%"), all, of("% x%"), of("a.c b.h a.c lib.c README")},
		{"words are no patterns", of("a"), of("% a%"), nil, of("% a%")},
		{"ends that would overlap", of("a%a"), of("a aa aba"), of("aa aba"), of("a")},
		{"empty words and an empty pattern", []string{""}, []string{"a", "", "b", ""}, []string{"", ""}, of("a b")},
		{"empty words and a %", of("%"), []string{"", ""}, []string{"", ""}, nil},
		{"any bytes", []string{"\xff%"}, []string{"\xff\x00", "\xfe", "\ufffd"}, []string{"\xff\x00"}, []string{"\xfe", "\ufffd"}},
	} {
		check(t, c.name, Filter(c.patterns, c.l, false), c.matched)
		check(t, c.name+", out", Filter(c.patterns, c.l, true), c.without)
		checkParted(t, c.patterns, c.l)
	}
}

// checkParted is P5.2 of one list: it is both answers, laid into one another by what each word's patterns say.
func checkParted(t *testing.T, patterns, l []string) {
	t.Helper()
	matched, without := Filter(patterns, l, false), Filter(patterns, l, true)
	if len(matched)+len(without) != len(l) {
		t.Fatalf("%q of %q: %q and %q are not all", patterns, l, matched, without)
	}
	for _, w := range l {
		from := &without
		if someMatch(patterns, w) {
			from = &matched
		}
		if len(*from) == 0 || (*from)[0] != w {
			t.Fatalf("%q of %q: %q is not where it must be", patterns, l, w)
		}
		*from = (*from)[1:]
	}
}

// someMatch asks each pattern, however many there are.
func someMatch(patterns []string, w string) bool {
	hits := 0
	for _, p := range patterns {
		if _, ok := pattern.Of(p).Match(w); ok {
			hits++
		}
	}
	return hits > 0
}

// P5.1
func TestPairs(t *testing.T) {
	for _, c := range []struct {
		name       string
		a, b, want []string
	}{
		{"both empty", nil, nil, nil},
		{"both empty, not nil", []string{}, []string{}, nil},
		{"one each", of("a"), of("1"), of("a1")},
		{"the same length", of("a b c"), of(".c .o .h"), of("a.c b.o c.h")},
		{"a longer first one", of("a b c"), of("1"), of("a1 b c")},
		{"a longer second one", of("a"), of("1 2 3"), of("a1 2 3")},
		{"an empty first one", nil, of("1 2"), of("1 2")},
		{"an empty second one", of("a b"), nil, of("a b")},
		{"empty words", []string{"", "b", ""}, []string{"1", "", ""}, []string{"1", "b", ""}},
		{"empty words behind the shorter one's end", of("a"), []string{"1", "", ""}, []string{"a1", "", ""}},
		{"the same word more than once", of("a a"), of("a a"), of("aa aa")},
		{"any bytes", []string{"\xe2", "%"}, []string{"\x82\xac", " "}, []string{"\u20ac", "% "}},
	} {
		check(t, c.name, Pairs(c.a, c.b), c.want)
	}
}

// P5.1
func TestSlice(t *testing.T) {
	l := of("a b c d")
	for _, c := range []struct {
		name     string
		l        []string
		from, to int
		want     []string
	}{
		{"all", l, 1, 4, l},
		{"the middle", l, 2, 3, of("b c")},
		{"one", l, 2, 2, of("b")},
		{"the first one", l, 1, 1, of("a")},
		{"the last one", l, 4, 4, of("d")},
		{"from 0", l, 0, 2, of("a b")},
		{"from below 0", l, -7, 1, of("a")},
		{"from 0 to 0", l, 0, 0, nil},
		{"from and to below 0", l, -3, -2, nil},
		{"to below 0", l, 1, -1, nil},
		{"to the least number", l, 1, math.MinInt, nil},
		{"from the least number to it", l, math.MinInt, math.MinInt, nil},
		{"from the least number", l, math.MinInt, 3, of("a b c")},
		{"from behind the end", l, 5, 5, nil},
		{"from far behind the end", l, 99, 100, nil},
		{"from the greatest number", l, math.MaxInt, math.MaxInt, nil},
		{"to behind the end", l, 3, 5, of("c d")},
		{"the last one, to far behind the end", l, 4, 99, of("d")},
		{"to the greatest number", l, 2, math.MaxInt, of("b c d")},
		{"all numbers", l, math.MinInt, math.MaxInt, l},
		{"to right ahead of from", l, 3, 2, nil},
		{"to far ahead of from", l, 4, 1, nil},
		{"from the greatest number to the least one", l, math.MaxInt, math.MinInt, nil},
		{"none", nil, 1, 1, nil},
		{"an empty list", []string{}, 0, 0, nil},
		{"an empty list, all numbers", []string{}, math.MinInt, math.MaxInt, nil},
		{"the same word more than once", of("a a b a"), 2, 4, of("a b a")},
		{"empty words", []string{"", "", "x"}, 2, 2, []string{""}},
	} {
		check(t, c.name, Slice(c.l, c.from, c.to), c.want)
	}
}

// P5.1, over all small numbers: the words whose places lie between both ends.
func TestSliceSmallNumbers(t *testing.T) {
	for n := range 6 {
		l := of("a b c d e f")[:n]
		for from := -3; from < 9; from++ {
			for to := -3; to < 9; to++ {
				var want []string
				for i, w := range l {
					if from <= i+1 && i+1 <= to {
						want = append(want, w)
					}
				}
				check(t, "Slice "+strconv.Itoa(from)+" "+strconv.Itoa(to), Slice(l, from, to), want)
			}
		}
	}
}

// P5.1
func TestEach(t *testing.T) {
	for _, c := range []struct {
		name           string
		l              []string
		before, behind string
		want           []string
	}{
		{"none", nil, "<", ">", nil},
		{"an empty list", []string{}, "<", ">", nil},
		{"both", of("a b"), "<", ">", of("<a> <b>")},
		{"ahead alone", of("a b"), "src/", "", of("src/a src/b")},
		{"behind alone", of("a b"), "", ".c", of("a.c b.c")},
		{"neither", of("a b"), "", "", of("a b")},
		{"an empty word", []string{"", "a"}, "<", ">", of("<> <a>")},
		{"an empty word and neither", []string{""}, "", "", []string{""}},
		{"the same word more than once", of("a a"), "x", "y", of("xay xay")},
		{"a % is a text", of("%"), "%", `\%`, []string{`%%\%`}},
		{"blanks", of("a"), " ", "\t\n", []string{" a\t\n"}},
		{"any bytes", []string{"\x82"}, "\xe2", "\xac", []string{"\u20ac"}},
	} {
		check(t, c.name, Each(c.l, c.before, c.behind), c.want)
	}
}

// allLists calls see with every list of at most most of the words.
func allLists(words []string, most int, see func([]string)) {
	var grow func(l []string, left int)
	grow = func(l []string, left int) {
		see(l)
		if left == 0 {
			return
		}
		for _, w := range words {
			grow(append(slices.Clone(l), w), left-1)
		}
	}
	grow(nil, most)
}

// P5.1, over all short lists: in order, and the same words, each once.
func TestSortShortLists(t *testing.T) {
	words := []string{"", "a", "aa", "b", "\xff"}
	allLists(words, 5, func(l []string) {
		var want []string
		for _, w := range words {
			if slices.Contains(l, w) {
				want = append(want, w)
			}
		}
		if got := Sort(l); !slices.Equal(got, want) {
			t.Fatalf("Sort(%q) = %q, want %q", l, got, want)
		}
	})
}

// P5.1 and P5.2, over all short lists of patterns and of words.
func TestFilterShortLists(t *testing.T) {
	allLists([]string{"%", "a", "a%", "%b", `\%`, ""}, 3, func(patterns []string) {
		allLists([]string{"a", "ab", "b", "%", ""}, 3, func(l []string) {
			checkParted(t, patterns, l)
		})
	})
}

// P5.1, over all short lists: the i-th of both, where there is one.
func TestPairsShortLists(t *testing.T) {
	at := func(l []string, i int) string {
		if i < len(l) {
			return l[i]
		}
		return ""
	}
	allLists([]string{"", "a", "b"}, 4, func(a []string) {
		allLists([]string{"", "1", "a"}, 4, func(b []string) {
			var want []string
			for i := 0; i < len(a) || i < len(b); i++ {
				want = append(want, at(a, i)+at(b, i))
			}
			if got := Pairs(a, b); !slices.Equal(got, want) {
				t.Fatalf("Pairs(%q, %q) = %q, want %q", a, b, got, want)
			}
		})
	})
}

// R3: what is handed in stays as it is, and so does what stands behind it in its memory; an answer is new memory.
func TestNewMemory(t *testing.T) {
	room := of("c a b a behind last")
	was := slices.Clone(room)
	other := of("% x y z behind last")
	otherWas := slices.Clone(other)
	l, patterns := room[:4], other[:1]
	calls := []func() []string{
		func() []string { return Sort(l) },
		func() []string { return Sort(room[:1]) },
		func() []string { return Filter(patterns, l, false) },
		func() []string { return Filter(other[1:4], l, true) },
		func() []string { return Filter(nil, l, true) },
		func() []string { return Pairs(l, nil) },
		func() []string { return Pairs(nil, l) },
		func() []string { return Pairs(l, other[:4]) },
		func() []string { return Slice(l, 1, 4) },
		func() []string { return Slice(l, 2, 2) },
		func() []string { return Slice(l, 3, 99) },
		func() []string { return Slice(l, 5, 5) },
		func() []string { return Each(l, "", "") },
		func() []string { return Each(l, "<", ">") },
		func() []string { return Each(room[:0], "<", ">") },
	}
	for i, call := range calls {
		first := call()
		kept := slices.Clone(first)
		second := call()
		for at := range second {
			second[at] = "spoilt"
		}
		_ = append(second, "more", "and more")
		check(t, "call "+strconv.Itoa(i), first, kept)
		check(t, "what was handed to call "+strconv.Itoa(i), room, was)
		check(t, "the other list of call "+strconv.Itoa(i), other, otherWas)
	}
}

// What is kept may be of any type.
func TestKeep(t *testing.T) {
	even := func(n int) bool { return n%2 == 0 }
	if got := keep([]int{3, 4, 4, 1, 2}, even); !slices.Equal(got, []int{4, 4, 2}) {
		t.Errorf("keep = %v", got)
	}
	if got := keep([]int{3, 1}, even); len(got) != 0 {
		t.Errorf("keep of none = %v", got)
	}
}
