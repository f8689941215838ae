package code

import (
	"slices"
	"strconv"
	"strings"
	"testing"

	"wainwright/api"
	"wainwright/syntax"
	"wainwright/table"
)

func text(s string) api.Node { return api.Node{Kind: api.Text, S: s} }

func refTo(n api.Node) api.Node { return api.Node{Kind: api.Ref, L: []api.Node{n}} }

func subOf(name, from, to api.Node) api.Node {
	return api.Node{Kind: api.Sub, L: []api.Node{name, from, to}}
}

func callOf(name string, l ...api.Node) api.Node { return api.Node{Kind: api.Call, S: name, L: l} }

func catOf(l ...api.Node) api.Node { return api.Node{Kind: api.Cat, L: l} }

func push(s string) api.Op { return api.Op{Kind: api.Push, S: s} }

func get() api.Op { return api.Op{Kind: api.Get} }

func subGet() api.Op { return api.Op{Kind: api.SubGet} }

func join(n int) api.Op { return api.Op{Kind: api.Join, N: n} }

func do(s string, n int) api.Op { return api.Op{Kind: api.Do, N: n, S: s} }

func lazy(s string, blocks ...int) api.Op { return api.Op{Kind: api.Lazy, S: s, Blocks: blocks} }

func block(l ...api.Op) []api.Op { return l }

func codeOf(blocks ...[]api.Op) api.Code { return api.Code{Blocks: blocks} }

// show is a code for a test's message, with every field of its instructions.
func show(c api.Code) string {
	var blocks []string
	for _, b := range c.Blocks {
		var l []string
		for _, o := range b {
			s := strconv.Itoa(o.Kind) + " " + strconv.Itoa(o.N) + " " + strconv.Quote(o.S)
			for _, x := range o.Blocks {
				s += ":" + strconv.Itoa(x)
			}
			l = append(l, s)
		}
		blocks = append(blocks, strings.Join(l, ", "))
	}
	return strconv.Itoa(len(blocks)) + " blocks: " + strings.Join(blocks, " / ")
}

// alike tells whether codes are so, place by place; nil and an empty list are one.
func alike(a, b api.Code) bool {
	return slices.EqualFunc(a.Blocks, b.Blocks, func(a, b []api.Op) bool {
		return slices.EqualFunc(a, b, func(a, b api.Op) bool {
			return a.Kind == b.Kind && a.N == b.N && a.S == b.S && slices.Equal(a.Blocks, b.Blocks)
		})
	})
}

// check holds what a node is compiled into against a code, and asks Ops and Same of both.
func check(t *testing.T, n api.Node, want api.Code) {
	t.Helper()
	got := Compile(n)
	if !alike(got, want) {
		t.Errorf("Compile of %.200s: %.300s, want %.300s", showNode(n), show(got), show(want))
		return
	}
	if !Same(got, want) || !Same(want, got) {
		t.Errorf("Same of %.300s, twice: no", show(got))
	}
	if Ops(got) != count(n) {
		t.Errorf("Ops of %.300s: %d, want %d", show(got), Ops(got), count(n))
	}
}

// showNode is a node for a test's message.
func showNode(n api.Node) string {
	s := strconv.Itoa(n.Kind) + strconv.Quote(n.S)
	for _, below := range n.L {
		s += "[" + showNode(below) + "]"
	}
	return s
}

// count is how many nodes there are, itself and all below.
func count(n api.Node) int {
	c := 1
	for _, below := range n.L {
		c += count(below)
	}
	return c
}

func parsed(t *testing.T, s string) api.Node {
	t.Helper()
	n, err := syntax.Parse(s)
	if err != api.OK {
		t.Fatalf("%.200q: error %d", s, err)
	}
	return n
}

// P12.1: each kind by itself, each field of each instruction.
func TestKinds(t *testing.T) {
	a, b, c, d := text("a"), text("b"), text("c"), text("d")
	ab := block(push("a"), push("b"))
	check(t, text(""), codeOf(block(push(""))))
	check(t, a, codeOf(block(push("a"))))
	check(t, text("$(if a,b)\x00\xff\n"), codeOf(block(push("$(if a,b)\x00\xff\n"))))
	check(t, refTo(a), codeOf(block(push("a"), get())))
	check(t, refTo(text("")), codeOf(block(push(""), get())))
	check(t, subOf(a, b, c), codeOf(block(push("a"), push("b"), push("c"), subGet())))
	check(t, subOf(c, text(""), text("%")), codeOf(block(push("c"), push(""), push("%"), subGet())))
	check(t, catOf(a, refTo(b)), codeOf(block(push("a"), push("b"), get(), join(2))))
	check(t, catOf(refTo(a), b, refTo(c), refTo(d)), codeOf(block(push("a"), get(), push("b"), push("c"), get(), push("d"), get(), join(4))))
	check(t, callOf("strip", a), codeOf(block(push("a"), do("strip", 1))))
	check(t, callOf("join", a, b), codeOf(append(ab, do("join", 2))))
	check(t, callOf("subst", a, b, c), codeOf(append(ab, push("c"), do("subst", 3))))
	check(t, callOf("call", a, b, c, d, a), codeOf(append(ab, push("c"), push("d"), push("a"), do("call", 5))))
	check(t, callOf("if", a, b), codeOf(block(lazy("if", 1, 2)), block(push("a")), block(push("b"))))
	check(t, callOf("or", a), codeOf(block(lazy("or", 1)), block(push("a"))))
	check(t, callOf("intcmp", a, b, c, d, text("")), codeOf(block(lazy("intcmp", 1, 2, 3, 4, 5)), block(push("a")), block(push("b")), block(push("c")), block(push("d")), block(push(""))))
}

// P12.1: the same of texts that Parse reads.
func TestTexts(t *testing.T) {
	for s, want := range map[string]api.Code{
		"":                     codeOf(block(push(""))),
		"a b":                  codeOf(block(push("a b"))),
		"$$":                   codeOf(block(push("$"))),
		"$a":                   codeOf(block(push("a"), get())),
		"$()":                  codeOf(block(push(""), get())),
		"${${a}}":              codeOf(block(push("a"), get(), get())),
		"$a$b":                 codeOf(block(push("a"), get(), push("b"), get(), join(2))),
		"$(a$(b)c)":            codeOf(block(push("a"), push("b"), get(), push("c"), join(3), get())),
		"$($a:$b=$c)":          codeOf(block(push("a"), get(), push("b"), get(), push("c"), get(), subGet())),
		"$(a:=)":               codeOf(block(push("a"), push(""), push(""), subGet())),
		"$(strip )":            codeOf(block(push(""), do("strip", 1))),
		"$(subst $a,b,$c$d)":   codeOf(block(push("a"), get(), push("b"), push("c"), get(), push("d"), get(), join(2), do("subst", 3))),
		"$(call f,,$(sort x))": codeOf(block(push("f"), push(""), push("x"), do("sort", 1), do("call", 3))),
		"$(and )":              codeOf(block(lazy("and", 1)), block(push(""))),
		"$(if $a,b$c)":         codeOf(block(lazy("if", 1, 2)), block(push("a"), get()), block(push("b"), push("c"), get(), join(2))),
		"$(foreach i,1 2,<$i>)": codeOf(block(lazy("foreach", 1, 2, 3)), block(push("i")), block(push("1 2")),
			block(push("<"), push("i"), get(), push(">"), join(3))),
	} {
		check(t, parsed(t, s), want)
	}
}

// P12.1: each function of table's, with the least and the most arguments that it takes, and those between.
func TestFunctions(t *testing.T) {
	for _, name := range table.Names() {
		info, _ := table.Find(name)
		most := info.Max
		if most == 0 {
			most = 40
		}
		for args := info.Min; args <= most; args++ {
			n := callOf(name)
			plain, late := block(), codeOf(block(lazy(name)))
			for i := range args {
				s := strconv.Itoa(i)
				n.L = append(n.L, text(s))
				plain = append(plain, push(s))
				late.Blocks[0][0].Blocks = append(late.Blocks[0][0].Blocks, i+1)
				late.Blocks = append(late.Blocks, block(push(s)))
			}
			if info.Lazy {
				check(t, n, late)
			} else {
				check(t, n, codeOf(append(plain, do(name, args))))
			}
		}
	}
}

// P12.1: which functions are lazy, by the chapter's own list.
func TestLazyFunctions(t *testing.T) {
	var got []string
	for _, name := range table.Names() {
		if c := Compile(callOf(name, text("a"), text("b"), text("c"))); c.Blocks[0][0].Kind == api.Lazy {
			got = append(got, name)
		}
	}
	if want := []string{"and", "foreach", "if", "intcmp", "let", "or"}; !slices.Equal(got, want) {
		t.Errorf("lazy are %q, want %q", got, want)
	}
}

// inside is a node with its instructions, and the blocks behind block 0 if it stands alone.
type inside struct {
	n    api.Node
	ops  []api.Op
	more [][]api.Op
}

func insides() []inside {
	x, y, z := text("x"), text("y"), text("z")
	return []inside{
		{text(""), block(push("")), nil},
		{x, block(push("x")), nil},
		{refTo(x), block(push("x"), get()), nil},
		{subOf(x, y, z), block(push("x"), push("y"), push("z"), subGet()), nil},
		{catOf(x, refTo(y)), block(push("x"), push("y"), get(), join(2)), nil},
		{callOf("strip", x), block(push("x"), do("strip", 1)), nil},
		{callOf("call", x, y, z), block(push("x"), push("y"), push("z"), do("call", 3)), nil},
		{callOf("or", x), block(lazy("or", 1)), [][]api.Op{block(push("x"))}},
		{callOf("if", refTo(x), y), block(lazy("if", 1, 2)), [][]api.Op{block(push("x"), get()), block(push("y"))}},
		{callOf("sort", callOf("and", x, y)), block(lazy("and", 1, 2), do("sort", 1)), [][]api.Op{block(push("x")), block(push("y"))}},
		{callOf("and", callOf("or", x), y), block(lazy("and", 1, 2)), [][]api.Op{block(lazy("or", 3)), block(push("y")), block(push("x"))}},
	}
}

// shifted is blocks that stand so many numbers further on.
func shifted(by int, blocks ...[]api.Op) [][]api.Op {
	var all [][]api.Op
	for _, b := range blocks {
		var l []api.Op
		for _, o := range b {
			for i, x := range o.Blocks {
				if i == 0 {
					o.Blocks = nil
				}
				o.Blocks = append(o.Blocks, x+by)
			}
			l = append(l, o)
		}
		all = append(all, l)
	}
	return all
}

// P12.1: each kind within each other kind that makes no blocks.
func TestWithin(t *testing.T) {
	a, b := text("a"), text("b")
	pa, pb := push("a"), push("b")
	for _, in := range insides() {
		for _, out := range []struct {
			n             api.Node
			ahead, behind []api.Op
		}{
			{refTo(in.n), block(), block(get())},
			{refTo(refTo(in.n)), block(), block(get(), get())},
			{subOf(in.n, a, b), block(), block(pa, pb, subGet())},
			{subOf(a, in.n, b), block(pa), block(pb, subGet())},
			{subOf(a, b, in.n), block(pa, pb), block(subGet())},
			{catOf(in.n, refTo(a)), block(), block(pa, get(), join(2))},
			{catOf(refTo(a), in.n, refTo(b)), block(pa, get()), block(pb, get(), join(3))},
			{catOf(refTo(a), in.n), block(pa, get()), block(join(2))},
			{callOf("strip", in.n), block(), block(do("strip", 1))},
			{callOf("subst", in.n, a, b), block(), block(pa, pb, do("subst", 3))},
			{callOf("subst", a, in.n, b), block(pa), block(pb, do("subst", 3))},
			{callOf("subst", a, b, in.n), block(pa, pb), block(do("subst", 3))},
			{callOf("call", callOf("value", in.n), a), block(), block(do("value", 1), pa, do("call", 2))},
		} {
			check(t, out.n, codeOf(append([][]api.Op{slices.Concat(out.ahead, in.ops, out.behind)}, in.more...)...))
		}
	}
}

// P12.1: each kind within each argument of lazy calls.
func TestWithinLazy(t *testing.T) {
	for _, in := range insides() {
		for name, args := range map[string]int{"or": 1, "and": 4, "if": 3, "foreach": 3, "let": 3, "intcmp": 5} {
			for at := range args {
				n := callOf(name)
				want := codeOf(block(lazy(name)))
				for i := range args {
					n.L = append(n.L, text(strconv.Itoa(i)))
					want.Blocks[0][0].Blocks = append(want.Blocks[0][0].Blocks, i+1)
					want.Blocks = append(want.Blocks, block(push(strconv.Itoa(i))))
				}
				n.L[at] = in.n
				want.Blocks[at+1] = shifted(args, in.ops)[0]
				want.Blocks = append(want.Blocks, shifted(args, in.more...)...)
				check(t, n, want)
				want.Blocks[0] = append(block(push("p")), append(want.Blocks[0], get(), join(2), do("info", 1))...)
				check(t, callOf("info", catOf(text("p"), refTo(n))), want)
			}
		}
	}
}
