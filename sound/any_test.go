package sound

import (
	"slices"
	"sync"
	"testing"

	"wainwright/api"
)

// P13.1: blocks that lie in one another's memory are gone through each for itself.
func TestBlocksInOneMemory(t *testing.T) {
	l := pushes(3, join(3), get(), join(1))
	check(t, "one twice", codeOf(l, l, l), 3)
	check(t, "pieces that may be", codeOf(l[:1], l[1:2], l[2:3], l[:4], l[:5], l), 3)
	check(t, "a piece that leaves two", codeOf(l, l[:2]), 0)
	check(t, "a piece that takes too many", codeOf(l, l[1:]), 0)
	check(t, "a piece of none", codeOf(l, l[2:2]), 0)
	or := block(push("a"), lazy("or", 2), join(2))
	check(t, "one that names, as two blocks", codeOf(or, or, pushes(1)), 2)
	check(t, "one that names, as two blocks, the last one too far behind", codeOf(or, pushes(1), or), 0)
	check(t, "a piece of one that names", codeOf(or, or[1:2], pushes(1)), 2)
	room := pushes(5)
	check(t, "with room behind", codeOf(room[:1], room[:1:5]), 1)
	great := joined(1000)
	check(t, "a great one often", codeOf(slices.Repeat([][]api.Op{great}, api.MaxOps/len(great))...), 1000)
	check(t, "a great one too often", codeOf(slices.Repeat([][]api.Op{great}, api.MaxOps/len(great)+1)...), 0)
	check(t, "a great one far too often", codeOf(slices.Repeat([][]api.Op{great}, 1000000)...), 0)
	check(t, "lists of numbers that are one another's", codeOf(block(api.Op{Kind: api.Lazy, S: "if", Blocks: ones(4)[:2]}), pushes(1)), 1)
}

// R1: codes that are great end soon.
func TestGreatCodes(t *testing.T) {
	check(t, "blocks of nothing", api.Code{Blocks: make([][]api.Op, 10000000)}, 0)
	check(t, "instructions of nothing", codeOf(make([]api.Op, 1000000)), 0)
	check(t, "pushes", codeOf(pushes(1000000)), 0)
	one := make([][]api.Op, 1000000)
	one[0] = pushes(1)
	check(t, "one, and blocks of nothing", api.Code{Blocks: one}, 0)
	text := make([]byte, 1<<26)
	gets := codeOf(pushes(1))
	gets.Blocks[0][0].S = string(text)
	check(t, "a long text", gets, 1)
	check(t, "a long name", codeOf(pushes(1, do(string(text), 1))), 0)
	check(t, "a long list of a function that is none", codeOf(block(lazy("hop", ones(1<<24)...)), pushes(1)), 0)
	check(t, "a long list of a function that takes three", codeOf(block(lazy("let", ones(1<<24)...)), pushes(1)), 0)
	check(t, "a long list of a function that takes any", codeOf(block(lazy("or", ones(1<<24)...)), pushes(1)), 1)
}

// all is codes that may be and codes that may not.
func all() []api.Code {
	return []api.Code{
		{}, codeOf(nil), codeOf(pushes(1)), codeOf(joined(5)), codeOf(pushes(2)), codeOf(block(get())), codeOf(pushes(3, subGet())),
		codeOf(block(lazy("if", 1, 2)), pushes(1), joined(2)), codeOf(block(lazy("if", 1, 3)), pushes(1), joined(2)), codeOf(block(lazy("or", ones(3*stride)...)), pushes(1)),
		codeOf(pushes(1, do("hop", 1))), codeOf(pushes(2, do("join", 2))), codeOf(block(api.Op{Kind: least, N: greatest, S: "or", Blocks: []int{least, greatest}})),
	}
}

// R3: what is handed in stays.
func TestHandedInStays(t *testing.T) {
	for _, c := range all() {
		before := show(c)
		Check(c)
		Depth(c)
		if after := show(c); after != before {
			t.Errorf("%.300s has become %.300s", before, after)
		}
	}
}

// R4: an answer hangs on the code alone: not on what was asked ahead, nor on what becomes of a code afterwards.
func TestNothingIsKept(t *testing.T) {
	for _, c := range all() {
		want := Depth(c)
		for _, other := range all() {
			Check(other)
			check(t, "behind another one", c, want)
		}
	}
	l := ones(3 * stride)
	c := codeOf(block(lazy("or", l...), lazy("if", 1, 1), do("join", 2)), pushes(1))
	for range 3 {
		check(t, "right", c, 2)
		l[2*stride] = 0
		c.Blocks[0][0].Blocks = l
		check(t, "another number", c, 0)
		l[2*stride] = 1
		check(t, "the number again", c, 2)
		c.Blocks[0][1].S = "hop"
		check(t, "another function", c, 0)
		c.Blocks[0][1].S = "let"
		check(t, "a function that takes more", c, 0)
		c.Blocks[0][1].S = "and"
		check(t, "a function that takes so many", c, 2)
		c.Blocks[1] = joined(4)
		check(t, "another block", c, 4)
		c.Blocks[1] = nil
		check(t, "no instruction there", c, 0)
		c.Blocks[1] = pushes(1)
	}
}

// R4: codes that are asked side by side.
func TestSideBySide(t *testing.T) {
	var asked sync.WaitGroup
	l := all()
	for range 8 {
		asked.Go(func() {
			for range 50 {
				for _, c := range l {
					if Check(c) != (slow(c) > 0) || Depth(c) != slow(c) {
						t.Errorf("Depth is not %d", slow(c))
					}
				}
			}
		})
	}
	asked.Wait()
}
