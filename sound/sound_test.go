package sound

import (
	"slices"
	"strconv"
	"strings"
	"testing"

	"wainwright/api"
)

const (
	greatest = 1<<63 - 1
	least    = -1 << 63
)

func push(s string) api.Op { return api.Op{Kind: api.Push, S: s} }

func get() api.Op { return api.Op{Kind: api.Get} }

func subGet() api.Op { return api.Op{Kind: api.SubGet} }

func join(n int) api.Op { return api.Op{Kind: api.Join, N: n} }

func do(s string, n int) api.Op { return api.Op{Kind: api.Do, N: n, S: s} }

func lazy(s string, blocks ...int) api.Op { return api.Op{Kind: api.Lazy, S: s, Blocks: blocks} }

func block(l ...api.Op) []api.Op { return l }

func codeOf(blocks ...[]api.Op) api.Code { return api.Code{Blocks: blocks} }

// pushes is so many of them, with other instructions behind.
func pushes(n int, behind ...api.Op) []api.Op {
	return append(slices.Repeat(block(push("a")), n), behind...)
}

// joined is so many pushes made one, if they are not one already.
func joined(n int) []api.Op {
	if n == 1 {
		return pushes(1)
	}
	return pushes(n, join(n))
}

// show is a code for a test's message, with every field of its instructions.
func show(c api.Code) string {
	var blocks []string
	for _, b := range c.Blocks {
		var l []string
		for _, o := range b {
			s := strconv.Itoa(o.Kind) + " " + strconv.Itoa(o.N) + " " + strconv.Quote(o.S)
			for _, x := range o.Blocks {
				s += ":" + strconv.Itoa(x)
			}
			l = append(l, s)
		}
		blocks = append(blocks, strings.Join(l, ", "))
	}
	return strconv.Itoa(len(blocks)) + " blocks: " + strings.Join(blocks, " / ")
}

// brief is the beginning of a code for a test's message, as some have lists far too long to be shown.
func brief(c api.Code) string {
	var d api.Code
	for _, b := range c.Blocks[:min(len(c.Blocks), 9)] {
		l := slices.Clone(b[:min(len(b), 9)])
		for i, o := range l {
			l[i].S, l[i].Blocks = o.S[:min(len(o.S), 20)], o.Blocks[:min(len(o.Blocks), 9)]
		}
		d.Blocks = append(d.Blocks, l)
	}
	return strconv.Itoa(len(c.Blocks)) + " blocks, the first of " + show(d)
}

// check asks Check and Depth of a code: depth 0 is one that may not be.
func check(t *testing.T, name string, c api.Code, depth int) {
	t.Helper()
	if ok, got := Check(c), Depth(c); ok != (depth > 0) || got != depth {
		t.Errorf("%s: Check is %v, Depth is %d, want %d: %s", name, ok, got, depth, brief(c))
	}
}

// P13.1: no block, one block, an empty block.
func TestBlocksThereAre(t *testing.T) {
	a := pushes(1)
	check(t, "zero", api.Code{}, 0)
	check(t, "an empty list", api.Code{Blocks: [][]api.Op{}}, 0)
	check(t, "one block", codeOf(a), 1)
	check(t, "one block of many", codeOf(pushes(5, join(5))), 5)
	for _, none := range [][]api.Op{nil, {}} {
		check(t, "an empty block", codeOf(none), 0)
		check(t, "empty blocks", codeOf(none, none, none), 0)
		check(t, "an empty block ahead", codeOf(none, a), 0)
		check(t, "an empty block behind", codeOf(a, none), 0)
		check(t, "an empty block between", codeOf(a, none, a), 0)
		check(t, "an empty block that is named", codeOf(block(lazy("or", 1)), none), 0)
		check(t, "an empty block that is named, between", codeOf(block(lazy("or", 1, 2)), none, a), 0)
	}
}

// P13.1: each block is gone through, whether any Lazy names it or not.
func TestBlocksThatNobodyNames(t *testing.T) {
	a := pushes(1)
	check(t, "two", codeOf(a, a), 1)
	check(t, "many", codeOf(slices.Repeat([][]api.Op{a}, 1000)...), 1)
	check(t, "one, deeper", codeOf(a, joined(3)), 3)
	check(t, "one behind those that are named", codeOf(block(lazy("and", 1, 2)), a, a, joined(2)), 2)
	check(t, "one between those that are named", codeOf(block(lazy("and", 1, 3)), a, joined(2), a), 2)
	check(t, "one that names others", codeOf(a, block(lazy("or", 2)), a), 1)
	check(t, "one that names none that there is", codeOf(a, block(lazy("or", 2))), 0)
	for name, wrong := range map[string][]api.Op{
		"takes what is not there": block(get()),
		"leaves two":              pushes(2),
		"has no kind":             pushes(1, api.Op{}),
		"has no function":         pushes(1, do("hop", 1)),
		"has a field more":        block(api.Op{Kind: api.Push, N: 1}),
	} {
		check(t, name, codeOf(wrong), 0)
		check(t, name+", the last one", codeOf(a, a, wrong), 0)
		check(t, name+", between", codeOf(a, wrong, a), 0)
		check(t, name+", ahead", codeOf(wrong, a, a), 0)
	}
}

// P13.1: what is left at a block's end: none, one, two, many.
func TestLeft(t *testing.T) {
	one := pushes(1)
	for n := range 6 {
		for name, more := range map[string][]api.Op{
			"pushes":         nil,
			"a Get":          block(push("a"), get(), join(1)),
			"a SubGet":       pushes(3, subGet()),
			"a Join of none": block(join(0)),
			"a Join":         pushes(2, join(2)),
			"a Do":           pushes(2, do("join", 2)),
			"a Lazy":         block(lazy("or", 3)),
		} {
			left, most := n, n
			if len(more) > 0 {
				left, most = n+1, max(n+1, Depth(codeOf(more, one, one, one))+n)
			}
			depth := 0
			if left == 1 {
				depth = most
			}
			l := pushes(n, more...)
			check(t, name+" behind "+strconv.Itoa(n), codeOf(l, one, one, one), depth)
			check(t, name+" behind "+strconv.Itoa(n)+", in another block", codeOf(one, l, one, one), depth)
			l = slices.Concat(more, pushes(n))
			if depth > 0 {
				depth = max(1, most-n)
			}
			check(t, name+" ahead of "+strconv.Itoa(n), codeOf(l, one, one, one), depth)
		}
	}
}

// P13.1: as many instructions as may be, and one more, in one block and over many.
func TestMostInstructions(t *testing.T) {
	one, most := pushes(1), api.MaxOps
	check(t, "a Join of all", codeOf(joined(most-1)), most-1)
	check(t, "a Join of all, one more", codeOf(joined(most)), 0)
	check(t, "a Join of all, many more", codeOf(joined(10*most)), 0)
	gets := func(n int) []api.Op { return append(pushes(1), slices.Repeat(block(get()), n-1)...) }
	check(t, "one by one", codeOf(gets(most)), 1)
	check(t, "one by one, one more", codeOf(gets(most+1)), 0)
	check(t, "over two", codeOf(joined(most-2), one), most-2)
	check(t, "over two, one more", codeOf(joined(most-1), one), 0)
	check(t, "over two, the second one great", codeOf(one, joined(most-2)), most-2)
	check(t, "over two, the second one great, one more", codeOf(one, joined(most-1)), 0)
	check(t, "over two alike", codeOf(gets(most/2), gets(most/2)), 1)
	check(t, "over two alike, one more", codeOf(gets(most/2), gets(most/2+1)), 0)
	many := slices.Repeat([][]api.Op{one}, most)
	check(t, "each in a block of its own", codeOf(many...), 1)
	check(t, "each in a block of its own, one more", codeOf(append(many, one)...), 0)
	check(t, "each in a block of its own, an empty one more", codeOf(append(many, nil)...), 0)
	behind := make([]int, most-1)
	for i := range behind {
		behind[i] = i + 1
	}
	many[0] = block(lazy("or", behind...))
	check(t, "each in a block that is named", codeOf(many...), 1)
	check(t, "each in a block that is named, one more", codeOf(append(many, one)...), 0)
	for i := range most - 1 {
		many[i] = block(lazy("or", i+1))
	}
	check(t, "each within the one ahead", codeOf(many...), 1)
	check(t, "each within the one ahead, one more", codeOf(append(many, one)...), 0)
}

// P13.1: Depth is the most on one block's pile, wherever in it, and whichever block's.
func TestDepth(t *testing.T) {
	l := [][]api.Op{joined(2), joined(5), joined(3)}
	check(t, "the second one's", codeOf(l...), 5)
	check(t, "the last one's", codeOf(l[0], l[2], l[1]), 5)
	check(t, "the first one's", codeOf(l[1], l[2], l[0]), 5)
	check(t, "not together", codeOf(l[0], l[0], l[0]), 2)
	check(t, "not on top of what stands ahead of a Lazy", codeOf(pushes(3, lazy("or", 1), join(4)), joined(2)), 4)
	check(t, "of a block that a Lazy names", codeOf(pushes(3, lazy("or", 1), join(4)), joined(6)), 6)
	check(t, "of one that is named twice", codeOf(block(lazy("or", 1), lazy("or", 1), join(2)), joined(3)), 3)
	check(t, "of one far within", codeOf(block(lazy("or", 1)), block(lazy("or", 2)), block(lazy("or", 3)), joined(4)), 4)
	check(t, "ahead", codeOf(pushes(4, join(4), push("b"), join(2))), 4)
	check(t, "between", codeOf(pushes(2, push("b"), push("c"), join(3), push("d"), join(2), join(2), push("e"), push("f"), join(3))), 4)
	check(t, "in the middle", codeOf(pushes(2, join(2), push("c"), push("d"), push("e"), join(3), push("f"), join(3))), 4)
	check(t, "at the end", codeOf(pushes(2, join(2), push("c"), push("d"), push("e"), join(4))), 4)
	check(t, "by a Join of none", codeOf(block(push("a"), join(0), join(0), join(3))), 3)
	check(t, "by a Get", codeOf(block(push("a"), get(), push("b"), get(), join(2))), 2)
	check(t, "by a SubGet", codeOf(pushes(4, subGet(), join(2))), 4)
	check(t, "by a Do", codeOf(pushes(3, do("strip", 1), do("subst", 3))), 3)
	check(t, "by Lazys", codeOf(block(lazy("or", 1), lazy("or", 1), lazy("or", 1), join(3)), pushes(1)), 3)
}
