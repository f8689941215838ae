package sound

import (
	"math/rand"
	"slices"
	"testing"

	"wainwright/api"
	"wainwright/code"
	"wainwright/syntax"
)

// slow is P13.1 read word by word: the most that ever is on one block's pile, which is a list here; 0, if the code may not be.
func slow(c api.Code) int {
	number, most := 0, 0
	for own, ops := range c.Blocks {
		number += len(ops)
		var pile []int
		for i, o := range ops {
			takes, ok := slowOp(o, own, len(c.Blocks))
			if !ok || takes > len(pile) {
				return 0
			}
			pile = append(pile[:len(pile)-takes], i)
			most = max(most, len(pile))
		}
		if len(pile) != 1 {
			return 0
		}
	}
	if len(c.Blocks) == 0 || number > api.MaxOps {
		return 0
	}
	return most
}

// slowOp is how many an instruction takes, and whether what it has may be.
func slowOp(o api.Op, own, blocks int) (int, bool) {
	noN, noS, noBlocks := o.N == 0, o.S == "", len(o.Blocks) == 0
	at := slices.IndexFunc(functions, func(f function) bool { return f.name == o.S })
	switch o.Kind {
	case api.Push:
		return 0, noN && noBlocks
	case api.Get:
		return 1, noN && noS && noBlocks
	case api.SubGet:
		return 3, noN && noS && noBlocks
	case api.Join:
		return o.N, o.N >= 0 && noS && noBlocks
	case api.Do:
		return o.N, at >= 0 && !functions[at].lazy && functions[at].fits(o.N) && noBlocks
	case api.Lazy:
		return 0, at >= 0 && functions[at].lazy && functions[at].fits(len(o.Blocks)) && rightNumbers(own, blocks, o.Blocks) && noN
	}
	return 0, false
}

// checkSlow holds what is answered of a code against the slow reading, and tells whether it may be.
func checkSlow(t *testing.T, c api.Code) bool {
	t.Helper()
	depth := slow(c)
	if ok, got := Check(c), Depth(c); ok != (depth > 0) || got != depth {
		t.Fatalf("Check is %v, Depth is %d, want %d: %s", ok, got, depth, brief(c))
	}
	return depth > 0
}

// P13.1 over all short blocks of some instructions, as the first block, the second one and the last one.
func TestShortBlocks(t *testing.T) {
	a := pushes(1)
	some := []api.Op{
		push("a"), get(), subGet(), join(0), join(1), join(2), join(3), do("strip", 1), do("join", 2), do("call", 3), lazy("or", 2), lazy("if", 1, 2),
	}
	right := 0
	var grow func(l []api.Op, left int)
	grow = func(l []api.Op, left int) {
		for _, c := range []api.Code{codeOf(l, a, a), codeOf(a, l, a), codeOf(joined(2), a, l)} {
			if checkSlow(t, c) {
				right++
			}
		}
		if left == 0 {
			return
		}
		for _, o := range some {
			grow(append(l[:len(l):len(l)], o), left-1)
		}
	}
	grow(nil, 4)
	if right < 1000 {
		t.Errorf("of the codes just %d may be", right)
	}
}

// P13.1 over all codes of two instructions with any fields, in one block and in two.
func TestAnyFields(t *testing.T) {
	var some []api.Op
	for _, kind := range []int{-1, 0, 1, 2, 3, 4, 5, 6, 7} {
		for _, n := range []int{-1, 0, 1, 2} {
			for _, s := range []string{"", "strip", "join", "or", "call", "hop"} {
				for _, l := range [][]int{nil, {0}, {1}, {2}, {1, 1}} {
					some = append(some, api.Op{Kind: kind, N: n, S: s, Blocks: l})
				}
			}
		}
	}
	right := 0
	for _, o := range some {
		for _, c := range []api.Code{
			codeOf(block(o)), codeOf(block(o), pushes(1)), codeOf(pushes(1), block(o), pushes(1)), codeOf(pushes(1, o)), codeOf(pushes(1, o), pushes(1)), codeOf(pushes(2, o)), codeOf(block(o, get()), pushes(1)), codeOf(pushes(1, o, join(2)), pushes(1)), codeOf(pushes(1), pushes(1, o), pushes(1)),
		} {
			if checkSlow(t, c) {
				right++
			}
		}
	}
	if right < 50 {
		t.Errorf("of the codes just %d may be", right)
	}
}

// copied is a code of its own.
func copied(c api.Code) api.Code {
	var d api.Code
	for _, b := range c.Blocks {
		l := slices.Clone(b)
		for i := range l {
			l[i].Blocks = slices.Clone(l[i].Blocks)
		}
		d.Blocks = append(d.Blocks, l)
	}
	return d
}

// spoil changes a code at one place; what r says tells which one, and how.
func spoil(r *rand.Rand, c *api.Code) {
	if len(c.Blocks) == 0 {
		c.Blocks = append(c.Blocks, pushes(1))
	}
	at := r.Intn(len(c.Blocks))
	b := &c.Blocks[at]
	if len(*b) == 0 || r.Intn(12) == 0 {
		spoilBlocks(r, c, at)
		return
	}
	i := r.Intn(len(*b))
	o := &(*b)[i]
	switch r.Intn(9) {
	case 0:
		*b = slices.Delete(*b, i, i+1)
	case 1:
		*b = slices.Insert(*b, i, *o)
	case 2:
		*b = slices.Insert(*b, i, push("b"))
	case 3:
		k := r.Intn(len(*b))
		(*b)[i], (*b)[k] = (*b)[k], (*b)[i]
	case 4:
		o.Kind = r.Intn(9) - 1
	case 5:
		o.N += r.Intn(5) - 2
	case 6:
		o.S = []string{"", "or", "and", "if", "strip", "subst", "join", "call", "hop"}[r.Intn(9)]
	case 7:
		o.Blocks = append(o.Blocks, r.Intn(len(c.Blocks)+2)-1)
	case 8:
		if len(o.Blocks) > 0 {
			o.Blocks[r.Intn(len(o.Blocks))] += r.Intn(5) - 2
		}
	}
}

// spoilBlocks is a block more, one fewer, or two that change places.
func spoilBlocks(r *rand.Rand, c *api.Code, at int) {
	switch r.Intn(3) {
	case 0:
		c.Blocks = slices.Delete(c.Blocks, at, at+1)
	case 1:
		c.Blocks = slices.Insert(c.Blocks, at, joined(1+r.Intn(3)))
	case 2:
		k := r.Intn(len(c.Blocks))
		c.Blocks[at], c.Blocks[k] = c.Blocks[k], c.Blocks[at]
	}
}

// P13.1 over what is Compiled, changed at a few places.
func TestSpoilt(t *testing.T) {
	r := rand.New(rand.NewSource(13))
	var codes []api.Code
	for _, s := range []string{
		"", "a", "$a", "a$b", "$(a:b=c)", "$(strip a)", "$(if a,b)", "$(if $a,b$c,d)", "$(or a,$b,c)x", "$(subst $a,b,$(c:d=e))", "$(call a,b,$(and c,d),e)",
		"$(foreach i,$(or 1 2,3),<$(i)$(if $i,$(let a b,c d,$a$b)$(strip $(or x,y)))>)", "$(intcmp $a,$(words b),c,$(call d,e),f)$(join $(sort $g),$(or h))",
	} {
		n, err := syntax.Parse(s)
		if err != api.OK {
			t.Fatalf("%q: error %d", s, err)
		}
		codes = append(codes, code.Compile(n))
	}
	right, wrong := 0, 0
	for range 200000 {
		c := copied(codes[r.Intn(len(codes))])
		for range 1 + r.Intn(3) {
			spoil(r, &c)
		}
		if checkSlow(t, c) {
			right++
		} else {
			wrong++
		}
	}
	if right < 10000 || wrong < 10000 {
		t.Errorf("of the codes %d may be, %d may not", right, wrong)
	}
}

// madeBlock is a block that may be, or nearly: what there is on the pile is taken now and then, in the end it is joined.
func madeBlock(r *rand.Rand, own, blocks int) []api.Op {
	var l []api.Op
	pile := 0
	put := func(takes int, o api.Op) {
		if takes <= pile || r.Intn(100) == 0 {
			pile += 1 - takes
			l = append(l, o)
		}
	}
	for range r.Intn(20) {
		switch f := functions[r.Intn(len(functions))]; r.Intn(6) {
		case 0, 1:
			put(0, push([]string{"", "a", "or"}[r.Intn(3)]))
		case 2:
			put(1, get())
		case 3:
			put(3, subGet())
		case 4:
			n := r.Intn(max(pile, 0) + 1)
			put(n, join(n))
		case 5:
			n := f.least + r.Intn(2)
			if !f.lazy {
				put(n, do(f.name, n))
				break
			}
			o := lazy(f.name)
			for range n {
				o.Blocks = append(o.Blocks, own+1+r.Intn(max(blocks-own-1, 1)))
			}
			put(0, o)
		}
	}
	return append(l, join(max(pile, 0)))
}

// P13.1 over codes that are made.
func TestMade(t *testing.T) {
	r := rand.New(rand.NewSource(31))
	right, wrong := 0, 0
	for range 100000 {
		var c api.Code
		blocks := 1 + r.Intn(6)
		for own := range blocks {
			c.Blocks = append(c.Blocks, madeBlock(r, own, blocks))
		}
		if checkSlow(t, c) {
			right++
		} else {
			wrong++
		}
	}
	if right < 5000 || wrong < 5000 {
		t.Errorf("of the codes %d may be, %d may not", right, wrong)
	}
}

// anyNumber is a number of any size, small ones more often than not.
func anyNumber(r *rand.Rand) int {
	if r.Intn(3) > 0 {
		return r.Intn(8) - 2
	}
	return int(r.Uint64()) >> r.Intn(64)
}

// P13.1 and R1: over instructions of any shape.
func TestAnyCodes(t *testing.T) {
	r := rand.New(rand.NewSource(131))
	for range 200000 {
		var c api.Code
		for range r.Intn(5) {
			var l []api.Op
			for range r.Intn(5) {
				o := api.Op{Kind: anyNumber(r), N: anyNumber(r), S: []string{"", "or", "strip", "\xff"}[r.Intn(4)]}
				for range r.Intn(4) {
					o.Blocks = append(o.Blocks, anyNumber(r))
				}
				l = append(l, o)
			}
			c.Blocks = append(c.Blocks, l)
		}
		checkSlow(t, c)
	}
}
