package code

import (
	"slices"
	"strings"
	"testing"

	"wainwright/api"
)

// checkSame asks Same of two codes, both ways round.
func checkSame(t *testing.T, name string, a, b api.Code, want bool) {
	t.Helper()
	if Same(a, b) != want || Same(b, a) != want {
		t.Errorf("%s: not %v", name, want)
	}
}

// P12.1: Ops of codes made by hand.
func TestOps(t *testing.T) {
	great := make([]api.Op, 1000)
	many := make([][]api.Op, 1000)
	for i := range many {
		many[i] = great[:i]
	}
	for _, c := range []struct {
		name string
		c    api.Code
		want int
	}{
		{"no block", api.Code{}, 0},
		{"an empty list of blocks", codeOf(), 0},
		{"a block without instructions", codeOf(nil), 0},
		{"blocks without instructions", codeOf(nil, block(), nil), 0},
		{"one", codeOf(block(push("a"))), 1},
		{"a zero one", codeOf(block(api.Op{})), 1},
		{"several in one", codeOf(block(push("a"), push("b"), join(2))), 3},
		{"several blocks", codeOf(block(push("a")), nil, block(push("b"), get()), block(get())), 4},
		{"the last one alone", codeOf(nil, nil, block(get(), get())), 2},
		{"blocks that none names", letters("'a' / 'b' / 'c'"), 3},
		{"a block that stands twice", codeOf(great, great), 2000},
		{"numbers that may not be", codeOf(block(lazy("or", -1, 7, 1<<62), join(-1<<63), api.Op{Kind: 1<<63 - 1, N: 1<<63 - 1})), 3},
		{"its own block", codeOf(block(lazy("or", 0), lazy("or", 0, 0))), 2},
		{"many", codeOf(many...), 499500},
	} {
		if got := Ops(c.c); got != c.want {
			t.Errorf("%s: Ops is %d, want %d", c.name, got, c.want)
		}
	}
}

// others is codes of which no two are alike, many of them but for one place.
func others() []api.Code {
	l := []api.Code{
		{}, codeOf(nil), codeOf(nil, nil), codeOf(nil, nil, nil), codeOf(block(api.Op{})), codeOf(block(api.Op{}, api.Op{})),
		codeOf(block(api.Op{}), nil), codeOf(nil, block(api.Op{})), codeOf(block(api.Op{}), block(api.Op{})),
	}
	for _, s := range []string{
		"'a'", "'b'", "''", "'A'", "'aa'", "'a' /", "/ 'a'", "'a' / 'a'", "'a' 'a'", "'a' 'b'", "'b' 'a'", "'a' / 'b'", "'b' / 'a'",
		"'a' get", "get 'a'", "get", "sub", "get get", "'a' / get", "/ 'a' get", "cat0", "cat1", "cat2", "'a' 'b' cat2", "'a' 'b' cat3", "'a' 'b' 'c' cat2",
		"strip0", "strip1", "strip2", "sort1", "'a' strip1", "'a' sort1", "'b' strip1", "'a' strip1 get", "'a' strip1 get get",
		"or:1 / 'a'", "or:2 / 'a'", "or:1:1 / 'a'", "or:1:2 / 'a'", "or:2:1 / 'a'", "and:1 / 'a'", "or:1 / 'b'", "or:1 / 'a' / 'b'", "or:1:2 / 'a' / 'b'", "or:1:2:3 / 'a' / 'b'", "or:1:2 / 'b' / 'a'",
		"or:1 or:1 / 'a'", "or:1 or:2 / 'a'", "or:2 or:1 / 'a'",
	} {
		l = append(l, letters(s))
	}
	for _, o := range []api.Op{
		{Kind: -1}, {Kind: 7}, {Kind: 1 << 62}, {N: 1}, {N: -1}, {N: 1 << 62}, {N: 1 << 32}, {S: "a"}, {S: "\x00"}, {Blocks: []int{0}}, {Blocks: []int{-1}}, {Blocks: []int{0, 0}}, {Blocks: []int{1 << 62}},
		{Kind: api.Push, N: 1}, {Kind: api.Push, Blocks: []int{0}}, {Kind: api.Get, S: "a"}, {Kind: api.Get, N: 1}, {Kind: api.SubGet, S: "a"}, {Kind: api.Join, S: "a"}, {Kind: api.Join, Blocks: []int{0}},
		{Kind: api.Lazy}, {Kind: api.Lazy, N: 1}, {Kind: api.Lazy, S: "or"}, {Kind: api.Do, S: "or", Blocks: []int{1}}, {Kind: api.Do, S: "or", N: 1, Blocks: []int{1}}, {Kind: api.Lazy, S: "or", N: 1, Blocks: []int{1}},
	} {
		l = append(l, codeOf(block(o)), codeOf(block(push("a"), o)), codeOf(block(push("a")), block(push("b"), o, get())))
	}
	return l
}

// P12.1: each code is like itself alone.
func TestSame(t *testing.T) {
	for i, a := range others() {
		for k, b := range others() {
			if Same(a, b) != (i == k) {
				t.Errorf("Same(%s, %s) = %v", show(a), show(b), i != k)
			}
		}
	}
}

// R3: nil and an empty list are one.
func TestSameOfEmptyLists(t *testing.T) {
	checkSame(t, "no blocks", api.Code{}, api.Code{Blocks: [][]api.Op{}}, true)
	checkSame(t, "no instructions", codeOf(nil, block(push("a")), []api.Op{}), codeOf([]api.Op{}, block(push("a")), nil), true)
	great := repeated(100, 100, "a")
	checkSame(t, "many instructions, and none", codeOf(great), codeOf(nil), false)
	checkSame(t, "many instructions twice, and once none", codeOf(great, great), codeOf(great, nil), false)
	checkSame(t, "many numbers, and none", codeOf(great[:1]), codeOf(repeated(1, 0, "a")), false)
	checkSame(t, "many numbers in each, and none", codeOf(great), codeOf(repeated(100, 0, "a")), false)
	for kind := range 8 {
		a, b := api.Op{Kind: kind, S: "a"}, api.Op{Kind: kind, S: "a", Blocks: []int{}}
		checkSame(t, "no numbers", codeOf(block(a, b)), codeOf(block(b, a)), true)
	}
}

// changed is a code of its own, with one change at one instruction.
func changed(c api.Code, at, i int, change func(*api.Op)) api.Code {
	d := api.Code{}
	for _, b := range c.Blocks {
		l := slices.Clone(b)
		for k := range l {
			l[k].Blocks = slices.Clone(l[k].Blocks)
		}
		d.Blocks = append(d.Blocks, l)
	}
	if change != nil {
		change(&d.Blocks[at][i])
	}
	return d
}

// changes is each way in which one instruction can become another one.
func changes() map[string]func(*api.Op) {
	return map[string]func(*api.Op){
		"another kind":       func(o *api.Op) { o.Kind++ },
		"a greater kind":     func(o *api.Op) { o.Kind += 1 << 32 },
		"another N":          func(o *api.Op) { o.N-- },
		"a greater N":        func(o *api.Op) { o.N += 1 << 32 },
		"another S":          func(o *api.Op) { o.S = strings.ToUpper(o.S) + "." },
		"a number more":      func(o *api.Op) { o.Blocks = append(o.Blocks, 0) },
		"a number ahead":     func(o *api.Op) { o.Blocks = append([]int{0}, o.Blocks...) },
		"another last one":   func(o *api.Op) { last(o, func(l []int) []int { l[len(l)-1]++; return l }) },
		"another first one":  func(o *api.Op) { last(o, func(l []int) []int { l[0] -= 1 << 32; return l }) },
		"one number less":    func(o *api.Op) { last(o, func(l []int) []int { return l[1:] }) },
		"the last one less":  func(o *api.Op) { last(o, func(l []int) []int { return l[:len(l)-1] }) },
		"a longer S by none": func(o *api.Op) { o.S += "\x00" },
	}
}

// last changes an instruction's numbers, if it has any, else its N.
func last(o *api.Op, change func([]int) []int) {
	if len(o.Blocks) == 0 {
		o.N += 1000
	} else {
		o.Blocks = change(o.Blocks)
	}
}

// P12.1: Same at every field of every instruction, at instructions and blocks more or fewer.
func TestSameAtEveryPlace(t *testing.T) {
	for _, s := range []string{
		"$a", "$(a:b=c)", "x$(strip $(or a,b,c))$d", "$(if $(and a,b),$(foreach i,c,$(call d,$i)))",
		"$(or " + strings.Repeat("$a,", 100) + "b)", strings.Repeat("$(or a,b,c)x", 40), "$(call f" + strings.Repeat(",$(and a,$b)", 60) + ")",
	} {
		c := Compile(parsed(t, s))
		checkSame(t, s+", itself", c, c, true)
		checkSame(t, s+", a copy", c, changed(c, 0, 0, nil), true)
		for at, b := range c.Blocks {
			for i := range b {
				for name, change := range changes() {
					checkSame(t, s+", "+name, c, changed(c, at, i, change), false)
				}
				d := changed(c, 0, 0, nil)
				d.Blocks[at] = slices.Delete(d.Blocks[at], i, i+1)
				checkSame(t, s+", an instruction less", c, d, false)
				d.Blocks[at] = slices.Insert(d.Blocks[at], i, b[i])
				checkSame(t, s+", the same again", c, d, true)
				d.Blocks[at] = slices.Insert(d.Blocks[at], i, api.Op{})
				checkSame(t, s+", an instruction more", c, d, false)
			}
			d := changed(c, 0, 0, nil)
			d.Blocks[at] = append(d.Blocks[at], api.Op{})
			checkSame(t, s+", an instruction more behind", c, d, false)
			d = changed(c, 0, 0, nil)
			d.Blocks = slices.Delete(d.Blocks, at, at+1)
			checkSame(t, s+", a block less", c, d, false)
			d = changed(c, 0, 0, nil)
			d.Blocks = slices.Insert(d.Blocks, at, nil)
			checkSame(t, s+", a block more", c, d, false)
		}
	}
}

// repeated is a great block, each of whose instructions has the same great list of numbers.
func repeated(ops, numbers int, s string) []api.Op {
	l := make([]api.Op, ops)
	blocks := make([]int, numbers)
	for i := range l {
		l[i] = api.Op{Kind: api.Lazy, S: s, Blocks: blocks}
	}
	return l
}

// times is a code that has so many blocks, each of them one of some, in turn.
func times(number int, of ...[]api.Op) api.Code {
	var c api.Code
	for i := range number {
		c.Blocks = append(c.Blocks, of[i%len(of)])
	}
	return c
}

// P12.1 and R1: great lists that stand very often end soon.
func TestSameOfShared(t *testing.T) {
	const great, often = 100000, 1000000
	a, b := times(often, repeated(great, great, "a")), times(often, repeated(great, great, "a"))
	checkSame(t, "great", a, b, true)
	checkSame(t, "great, itself", a, a, true)
	checkSame(t, "great, one more", a, times(often+1, b.Blocks[0]), false)
	checkSame(t, "great, another text", a, times(often, repeated(great, great, "b")), false)
	b.Blocks[often-1] = changed(times(1, a.Blocks[0][:20]), 0, 0, nil).Blocks[0]
	checkSame(t, "great, a short last one", a, b, false)
	b.Blocks[often-1] = append(slices.Clone(a.Blocks[0][:great-1]), get())
	checkSame(t, "great, another last instruction", a, b, false)
	b.Blocks[often-1] = slices.Clone(a.Blocks[0])
	checkSame(t, "great, another list of the same", a, b, true)
	b.Blocks[often-1][great-1].Blocks = append(make([]int, great-1), 1)
	checkSame(t, "great, another last number", a, b, false)
}

// P12.1 and R1: the same of several lists, each of which is held against each of others.
func TestSameOfSeveralShared(t *testing.T) {
	const several, great = 500, 2000
	made := func(number int) [][]api.Op {
		var l [][]api.Op
		for range number {
			l = append(l, repeated(great, 1, "a"))
		}
		return l
	}
	a, b := times(several*(several-1), made(several)...), times(several*(several-1), made(several-1)...)
	checkSame(t, "several", a, b, true)
	b.Blocks[several-2][great-1].S = "b"
	checkSame(t, "several, another text in the last one of one of them", a, b, false)
}

// Lists that begin at one place, but are not as long, are not alike.
func TestSameOfOneBeginning(t *testing.T) {
	for _, length := range []int{2, short - 1, short, short + 1, 100} {
		l := repeated(length+1, length, "a")
		m := repeated(length+1, length, "a")
		checkSame(t, "shorter", codeOf(l), codeOf(l[:length]), false)
		checkSame(t, "shorter behind longer", codeOf(l, l), codeOf(m, m[:length]), false)
		checkSame(t, "shorter and longer", codeOf(l[:length], l), codeOf(m[:length], m), true)
		checkSame(t, "moved", codeOf(l[1:], l), codeOf(m[:length], m), true)
		m[length].S = "b"
		checkSame(t, "shorter, and longer that is not alike", codeOf(l[:length], l), codeOf(m[:length], m), false)
		checkSame(t, "moved, not alike", codeOf(l[:length], l[1:]), codeOf(m[:length], m[1:]), false)
		l[length].S = "b"
		n := slices.Concat(l[:1], l)
		checkSame(t, "one within the other", codeOf(n[1:length], n[:length-1]), codeOf(l[:length-1], l[:length-1]), true)
		o := repeated(2, length+1, "a")
		o[1].Blocks = o[0].Blocks[:length]
		p := repeated(2, length+1, "a")
		p[1].Blocks = p[0].Blocks[1:]
		checkSame(t, "numbers of one beginning", codeOf(o), codeOf(p), true)
		p[0].Blocks[length] = 1
		checkSame(t, "numbers of one beginning, not alike", codeOf(o[1:]), codeOf(p[1:]), false)
	}
}

// R3: Same and Ops change nothing.
func TestCodesStay(t *testing.T) {
	all := append(others(), times(20, repeated(20, 20, "a")))
	for i, c := range all {
		before, other := show(c), show(all[len(all)-1-i])
		Same(c, all[len(all)-1-i])
		Same(all[len(all)-1-i], c)
		Same(c, c)
		Ops(c)
		if show(c) != before || show(all[len(all)-1-i]) != other {
			t.Errorf("%s has become %s", before, show(c))
		}
	}
}
