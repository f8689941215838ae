package code

import (
	"testing"

	"wainwright/api"
)

// checkNone asks that there is no code.
func checkNone(t *testing.T, name string, n api.Node) {
	t.Helper()
	if got := Compile(n); len(got.Blocks) != 0 || Ops(got) != 0 || !Same(got, api.Code{}) {
		t.Errorf("%s: %.200s, want none", name, show(got))
	}
}

// R1: nodes that have not the form of P10.2 have no code, by themselves and within others.
func TestNoForms(t *testing.T) {
	a := text("a")
	for name, n := range map[string]api.Node{
		"zero":                           {},
		"zero, with a text":              {S: "or"},
		"zero, of one":                   {L: []api.Node{a}},
		"a kind behind all":              {Kind: 6, S: "or", L: []api.Node{a}},
		"a kind ahead of all":            {Kind: -1, S: "or", L: []api.Node{a}},
		"the greatest kind":              {Kind: 1<<63 - 1},
		"the least kind":                 {Kind: -1 << 63},
		"a kind that begins as a Text's": {Kind: 1<<32 + api.Text, S: "a"},
		"a kind that begins as a Call's": {Kind: 1<<8 + api.Call, S: "or", L: []api.Node{a}},
		"a Text of one":                  {Kind: api.Text, S: "a", L: []api.Node{a}},
		"a Text of none that is one":     {Kind: api.Text, L: []api.Node{{}}},
		"a Ref of none":                  {Kind: api.Ref},
		"a Ref of an empty list":         {Kind: api.Ref, L: []api.Node{}},
		"a Ref of two":                   {Kind: api.Ref, L: []api.Node{a, a}},
		"a Sub of none":                  {Kind: api.Sub},
		"a Sub of two":                   {Kind: api.Sub, L: []api.Node{a, a}},
		"a Sub of four":                  {Kind: api.Sub, L: []api.Node{a, a, a, a}},
	} {
		checkNone(t, name, n)
		checkNone(t, name+", in a Ref", refTo(n))
		checkNone(t, name+", in a Sub", subOf(a, n, a))
		checkNone(t, name+", ahead in a Cat", catOf(n, a))
		checkNone(t, name+", behind in a Cat", catOf(a, n))
		checkNone(t, name+", in a call", callOf("join", a, n))
		checkNone(t, name+", ahead in a lazy call", callOf("or", n, a))
		checkNone(t, name+", behind in a lazy call", callOf("or", a, callOf("and", a, refTo(n))))
	}
}

// chain is a text so many times within another node.
func chain(deep int, s string, of func(api.Node) api.Node) api.Node {
	n := text(s)
	for range deep {
		n = of(n)
	}
	return n
}

// P12.1 and R1: nodes deeper than calls can be nested.
func TestVeryDeep(t *testing.T) {
	const deep = 1200000
	c := Compile(chain(deep, "x", refTo))
	if len(c.Blocks) != 1 || Ops(c) != deep+1 || c.Blocks[0][0].S != "x" || c.Blocks[0][deep].Kind != api.Get {
		t.Errorf("deep Refs: %d blocks, %d instructions", len(c.Blocks), Ops(c))
	}
	c = Compile(chain(deep/3, "x", func(n api.Node) api.Node { return callOf("or", n) }))
	if len(c.Blocks) != deep/3+1 || Ops(c) != deep/3+1 || c.Blocks[7][0].Blocks[0] != 8 || c.Blocks[deep/3][0].S != "x" {
		t.Errorf("deep lazy calls: %d blocks, %d instructions", len(c.Blocks), Ops(c))
	}
	for _, times := range []int{499999, 500000, deep} {
		c = Compile(chain(times, "x", func(n api.Node) api.Node { return callOf("join", text("a"), n) }))
		if len(c.Blocks) != 1 || Ops(c) != 2*times+1 || c.Blocks[0][times].S != "x" || c.Blocks[0][times+1].N != 2 {
			t.Errorf("deep calls: %d blocks, %d instructions", len(c.Blocks), Ops(c))
		}
	}
	c = Compile(chain(deep, "x", func(n api.Node) api.Node { return callOf("and", refTo(n), text("b")) }))
	if len(c.Blocks) != 2*deep+1 || Ops(c) != 3*deep+1 {
		t.Errorf("deep lazy calls of two: %d blocks, %d instructions", len(c.Blocks), Ops(c))
	}
	checkNone(t, "deep Refs of none", refTo(chain(deep, "x", func(n api.Node) api.Node { return api.Node{Kind: api.Ref, L: []api.Node{n, n}} })))
	checkNone(t, "deep, of no kind", chain(deep, "x", func(n api.Node) api.Node { return api.Node{L: []api.Node{n}} }))
}

// P12.1: lists that stand in several places are compiled in each of them.
func TestShared(t *testing.T) {
	l := []api.Node{text("a"), callOf("or", text("b")), text("c")}
	some := func(kind int, s string, from, to int) api.Node { return api.Node{Kind: kind, S: s, L: l[from:to]} }
	check(t, catOf(some(api.Cat, "", 0, 3), some(api.Sub, "", 0, 3), some(api.Cat, "", 0, 3)), letters("'a' or:1 'c' cat3 'a' or:2 'c' sub 'a' or:3 'c' cat3 cat3 / 'b' / 'b' / 'b'"))
	check(t, callOf("or", some(api.Cat, "", 1, 3), some(api.Ref, "", 1, 2)), letters("or:1:2 / or:3 'c' cat2 / or:4 get / 'b' / 'b'"))
	n := callOf("and", text("a"), text("b"))
	for range 16 {
		n = catOf(n, refTo(n))
	}
	checkSlow(t, n)
}

// doubled is a node that stands 2 to the so manieth times.
func doubled(times int, n api.Node, of func(l ...api.Node) api.Node) api.Node {
	for range times {
		n = of(n, n)
	}
	return n
}

func orOf(l ...api.Node) api.Node { return callOf("or", l...) }

func sortOf(l ...api.Node) api.Node { return callOf("sort", l...) }

// R1: a few lists that ask for more instructions than there is room for.
func TestDoubled(t *testing.T) {
	for _, of := range []func(l ...api.Node) api.Node{catOf, orOf, sortOf} {
		checkSlow(t, doubled(12, text("x"), of))
		if c := Compile(doubled(18, text("x"), of)); Ops(c) != 1<<19-1 {
			t.Errorf("doubled 18 times: %d instructions", Ops(c))
		}
		for _, times := range []int{25, 30, 31, 32, 40, 62, 63, 64, 100, 10000} {
			checkNone(t, "doubled", doubled(times, text("x"), of))
			checkNone(t, "doubled, behind another one", catOf(refTo(text("a")), doubled(times, text("x"), of)))
		}
	}
	const many = 300000
	l := make([]api.Node, many)
	for i := range l {
		l[i] = api.Node{Kind: api.Cat, L: l[i+1:]}
	}
	checkNone(t, "all ends of a list in one another", l[0])
	for i := range l {
		l[i] = api.Node{Kind: api.Call, S: "or", L: l[many-i:]}
	}
	checkNone(t, "all ends of a list in one another, the shortest first", l[many-1])
}

// R1: the same of lists that begin and end within one another.
func TestWithinOneAnother(t *testing.T) {
	for ahead := 1; ahead < 4; ahead++ {
		for length := 2; length < 5; length++ {
			up, down := make([]api.Node, 300), make([]api.Node, 300)
			for i := range up {
				up[i], down[i] = text("x"), text("x")
			}
			for i := ahead + length; i < len(up); i++ {
				up[i] = orOf(up[i-ahead-length:][:length]...)
				down[len(down)-1-i] = catOf(down[len(down)-1-i+ahead:][:length]...)
			}
			checkNone(t, "lists of those ahead", up[len(up)-1])
			checkNone(t, "lists of those behind", down[0])
			checkSlow(t, up[15])
			checkSlow(t, down[len(down)-16])
		}
	}
	texts := make([]api.Node, 3000)
	var up, down []api.Node
	for i := range texts {
		texts[i] = text("x")
		up = append(up, catOf(texts[i:]...))
		down = append(down, catOf(texts[len(texts)-1-i:]...))
	}
	checkNone(t, "all ends of a list of Texts", catOf(up...))
	checkNone(t, "all ends of a list of Texts, the shortest first", catOf(down...))
}

// below is a node of a kind with so many below it, one of which is itself; the others are Refs.
func below(kind int, s string, number, itself int) api.Node {
	l := make([]api.Node, number)
	for i := range l {
		l[i] = refTo(text("a"))
	}
	l[itself] = api.Node{Kind: kind, S: s, L: l}
	return l[itself]
}

// R1: nodes below themselves.
func TestBelowThemselves(t *testing.T) {
	for kind := range 8 {
		for number := 1; number < 4; number++ {
			for itself := range number {
				checkNone(t, "below itself", below(kind, "or", number, itself))
			}
		}
	}
	checkNone(t, "below itself, in a lazy call", callOf("or", refTo(text("a")), below(api.Call, "and", 5, 2)))
	checkNone(t, "below itself, in a call that is not lazy", callOf("join", refTo(text("a")), below(api.Call, "strip", 5, 4)))
	l := make([]api.Node, 1000)
	for i := range l {
		l[i] = api.Node{Kind: api.Cat, L: l}
	}
	checkNone(t, "many below themselves", l[0])
	a, b := make([]api.Node, 1), make([]api.Node, 2)
	a[0] = api.Node{Kind: api.Cat, L: b}
	b[0], b[1] = text("x"), api.Node{Kind: api.Ref, L: a}
	checkNone(t, "a Cat below a Ref below it", a[0])
	checkNone(t, "a Ref below a Cat below it", b[1])
	ring := make([]api.Node, 2000000)
	for i := range ring {
		ring[i] = api.Node{Kind: api.Ref, L: ring[(i+1)%len(ring):][:1]}
	}
	checkNone(t, "below itself, by a long way", ring[0])
}

// R3: what is handed in stays.
func TestHandedInStays(t *testing.T) {
	for _, in := range insides() {
		n := subOf(callOf("or", in.n, text("")), catOf(in.n, text("u")), callOf("join", text("v"), in.n))
		before := showNode(n)
		Compile(n)
		if after := showNode(n); after != before {
			t.Errorf("%s has become %s", before, after)
		}
	}
}

// R3 and R4: what becomes of a node and of an answer changes no answer, neither an earlier nor a later one.
func TestAnswersStayApart(t *testing.T) {
	const s = "a$(if $(or b,c),$d)$(call e,$(and f))$(g:h=i)"
	const want = "'a' if:1:2 'e' and:5 call2 'g' 'h' 'i' sub cat4 / or:3:4 / 'd' get / 'b' / 'c' / 'f'"
	n := parsed(t, s)
	kept := Compile(n)
	spoilt := Compile(n)
	for i, b := range spoilt.Blocks {
		for k := range b {
			for x := range b[k].Blocks {
				b[k].Blocks[x] = -1
			}
			b[k] = api.Op{Kind: 77, S: "spoilt"}
		}
		spoilt.Blocks[i] = append(b, push("spoilt"))
	}
	check(t, n, letters(want))
	n.L[0].S = "spoilt"
	n.L[1].L[0].L[0] = text("spoilt")
	n.L[2].L = n.L[2].L[:1]
	if !Same(kept, letters(want)) {
		t.Errorf("an answer has become %s", show(kept))
	}
	check(t, parsed(t, s), letters(want))
}

// R3: no list of an answer shares anything with another one, not even behind its end.
func TestListsShareNothing(t *testing.T) {
	c := Compile(parsed(t, "$(or a,b)$(and c,d)$(if $(or e,f),g)"))
	want := show(c)
	for i, b := range c.Blocks {
		_ = append(b, push("spoilt"), push("spoilt"), push("spoilt"), push("spoilt"))
		for _, o := range c.Blocks[i] {
			_ = append(o.Blocks, -1, -1, -1, -1)
		}
	}
	_ = append(c.Blocks, block(push("spoilt")))
	if got := show(c); got != want {
		t.Errorf("%s has become %s", want, got)
	}
}
