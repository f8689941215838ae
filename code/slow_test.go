package code

import (
	"math/rand"
	"slices"
	"strings"
	"testing"

	"wainwright/api"
	"wainwright/syntax"
	"wainwright/table"
)

// slow is P12.1 read word by word: the instructions of a node, and the new blocks that it asks for, the first of which has the number next.
func slow(n api.Node, next int) ([]api.Op, [][]api.Op) {
	if n.Kind == api.Call && slices.Contains([]string{"if", "or", "and", "intcmp", "foreach", "let"}, n.S) {
		return slowLazy(n, next)
	}
	var ops []api.Op
	var more [][]api.Op
	for _, below := range n.L {
		o, m := slow(below, next+len(more))
		ops, more = append(ops, o...), append(more, m...)
	}
	switch n.Kind {
	case api.Text:
		return block(push(n.S)), nil
	case api.Ref:
		return append(ops, get()), more
	case api.Sub:
		return append(ops, subGet()), more
	case api.Cat:
		return append(ops, join(len(n.L))), more
	}
	return append(ops, do(n.S, len(n.L))), more
}

func slowLazy(n api.Node, next int) ([]api.Op, [][]api.Op) {
	o := lazy(n.S)
	more := make([][]api.Op, len(n.L))
	for i, below := range n.L {
		o.Blocks = append(o.Blocks, next+i)
		ops, m := slow(below, next+len(more))
		more[i] = ops
		more = append(more, m...)
	}
	return block(o), more
}

// checkSlow holds what a node is compiled into against the slow reading, and asks what follows of it.
func checkSlow(t *testing.T, n api.Node) {
	t.Helper()
	got := Compile(n)
	ops, more := slow(n, 1)
	if want := codeOf(append([][]api.Op{ops}, more...)...); !alike(got, want) {
		t.Fatalf("Compile of %.300s: %.300s, want %.300s", showNode(n), show(got), show(want))
	}
	if Ops(got) != count(n) || Ops(got) != syntax.Size(n) {
		t.Fatalf("%.300s: Ops is %d, there are %d nodes, Size is %d", showNode(n), Ops(got), count(n), syntax.Size(n))
	}
	if wrong := wrongNumbers(got); wrong != "" {
		t.Fatalf("%.300s: %s: %.300s", showNode(n), wrong, show(got))
	}
	if !Same(got, Compile(n)) {
		t.Fatalf("%.300s: compiled twice, not alike", showNode(n))
	}
}

// wrongNumbers tells what the numbers of blocks have that P12.1 rules out, or nothing.
func wrongNumbers(c api.Code) string {
	named := make([]int, len(c.Blocks))
	for at, b := range c.Blocks {
		for _, o := range b {
			for i, x := range o.Blocks {
				if x <= at || x >= len(c.Blocks) || x != o.Blocks[0]+i {
					return "a number that may not be"
				}
				named[x]++
			}
		}
	}
	for i, times := range named {
		if times != min(i, 1) {
			return "a block that is not named once"
		}
	}
	return ""
}

// readable calls see with what the texts are read as, if they have no errors, and tells how many have none.
func readable(texts func(see func(string)), see func(api.Node)) int {
	number := 0
	texts(func(s string) {
		if n, err := syntax.Parse(s); err == api.OK {
			number++
			see(n)
		}
	})
	return number
}

// allTexts calls see with every text of at most most of the pieces.
func allTexts(pieces []string, most int, see func(string)) {
	var grow func(s string, left int)
	grow = func(s string, left int) {
		see(s)
		if left == 0 {
			return
		}
		for _, p := range pieces {
			grow(s+p, left-1)
		}
	}
	grow("", most)
}

// P12.1 and P12.2, over all short texts.
func TestShortTexts(t *testing.T) {
	for _, pieces := range [][]string{
		{"$", "(", ")", "{", "}", ",", ":", "=", "or ", "a"},
		{"$(or ", "$(and ", ")", ",", "$a", "x"},
		{"$(if ", "$(strip ", "$(", ":b=c)", ")", ",", "x"},
	} {
		texts := func(see func(string)) { allTexts(pieces, 12/len(pieces)+4, see) }
		if n := readable(texts, func(n api.Node) { checkSlow(t, n) }); n < 1000 {
			t.Errorf("of the texts of %q just %d are read", pieces, n)
		}
	}
}

// P12.1 and P12.2, over many longer texts; they are the same each time.
func TestMadeTexts(t *testing.T) {
	pieces := strings.Fields("$( $( ${ ) ) ) ) } } ( $$ $ , , , : = a b $a $b $(a) $(a:b=c) ${a}")
	for _, name := range table.Names() {
		pieces = append(pieces, "$("+name+" ")
	}
	for _, name := range []string{"if", "or", "and", "let", "foreach", "intcmp"} {
		pieces = append(pieces, "$("+name+" ", "$("+name+" $a,", "$("+name+" $(or x,y),b,c)", "$("+name+" a,$(and x,$(sort y)),")
	}
	texts := func(see func(string)) {
		r := rand.New(rand.NewSource(12))
		for range 200000 {
			var s strings.Builder
			for range r.Intn(30) {
				s.WriteString(pieces[r.Intn(len(pieces))])
			}
			s.WriteString(strings.Repeat(")", r.Intn(8)))
			see(s.String())
		}
	}
	if n := readable(texts, func(n api.Node) { checkSlow(t, n) }); n < 20000 {
		t.Errorf("of the texts just %d are read", n)
	}
}

// made is a node of at most so many levels more; what r says tells which one.
func made(r *rand.Rand, names []string, levels int) api.Node {
	if levels == 0 || r.Intn(6) == 0 {
		return text([]string{"", "a", "b", "$c"}[r.Intn(4)])
	}
	n := api.Node{Kind: []int{api.Ref, api.Sub, api.Call, api.Call, api.Call, api.Cat, api.Cat}[r.Intn(7)]}
	many := 1
	switch n.Kind {
	case api.Sub:
		many = 3
	case api.Call:
		n.S = names[r.Intn(len(names))]
		many = r.Intn(5)
	case api.Cat:
		many = r.Intn(5)
	}
	for range many {
		n.L = append(n.L, made(r, names, levels-1))
	}
	return n
}

// P12.1 over many made nodes, half of whose calls are lazy.
func TestMadeNodes(t *testing.T) {
	r := rand.New(rand.NewSource(21))
	names := append(table.Names(), "hop", "")
	for range 4 {
		names = append(names, "if", "or", "and", "let", "foreach", "intcmp")
	}
	for range 50000 {
		checkSlow(t, made(r, names, r.Intn(7)))
	}
}

// P12.2: texts of more instructions than a code may have, and of more nodes than Size tells.
func TestGreatTexts(t *testing.T) {
	for _, c := range []struct {
		ahead, s     string
		times, nodes int
	}{
		{"", "$a", api.MaxOps / 2, api.MaxOps + 1},
		{"x", "$a", api.MaxOps, 2*api.MaxOps + 2},
		{"", "$(or b,$c)", api.MaxText / 10, 4*(api.MaxText/10) + 1},
		{"", "$a", 499999, 999999},
		{"x", "$a", 499999, 1000000},
		{"", "$a", 500000, 1000001},
		{"", "$(or b,$c)", 249999, 999997},
		{"", "$(or b,$c)", 250000, 1000001},
		{"y", "$(a:b=$(or c))x$(strip d)", 200000, 1600002},
	} {
		n := parsed(t, c.ahead+strings.Repeat(c.s, c.times))
		ops, more := slow(n, 1)
		got := Compile(n)
		if !alike(got, codeOf(append([][]api.Op{ops}, more...)...)) || Ops(got) != c.nodes {
			t.Errorf("%q, %d times: %d blocks, %d instructions, want %d", c.s, c.times, len(got.Blocks), Ops(got), c.nodes)
		}
	}
}
