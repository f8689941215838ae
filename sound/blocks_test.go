package sound

import (
	"slices"
	"strconv"
	"testing"

	"wainwright/api"
)

// rightNumbers tells whether each number is of a block behind its own one, and there.
func rightNumbers(own, blocks int, l []int) bool {
	for _, n := range l {
		if n <= own || n >= blocks {
			return false
		}
	}
	return true
}

// P13.1: a Lazy's Blocks that name any block: their own one, those ahead and behind, none that there is.
func TestNamedBlocks(t *testing.T) {
	for blocks := 1; blocks < 6; blocks++ {
		for own := range blocks {
			for _, n := range []int{-1, 0, 1, 2, 3, 4, 5, 6, 7, -2, -5, 100, -100, greatest, greatest - 1, least, least + 1, 1 << 32, 1<<32 + 1, 1<<32 + 4, -1<<32 + 1, 1 << 62} {
				checkNamed(t, blocks, own, n)
				for _, m := range []int{-1, 0, 1, 2, 3, 4, 5, own, own + 1, blocks - 1, blocks, greatest, least} {
					checkNamed(t, blocks, own, n, m)
					checkNamed(t, blocks, own, n, m, n)
				}
			}
		}
	}
}

// checkNamed asks for a code of so many blocks, of which one names some.
func checkNamed(t *testing.T, blocks, own int, l ...int) {
	t.Helper()
	c := codeOf(slices.Repeat([][]api.Op{pushes(1)}, blocks)...)
	c.Blocks[own] = block(lazy("or", l...))
	name := "block " + strconv.Itoa(own) + " of " + strconv.Itoa(blocks)
	if rightNumbers(own, blocks, l) {
		check(t, name, c, 1)
		c.Blocks[own] = block(push("b"), lazy("or", l...), join(2))
		check(t, name+", behind a Push", c, 2)
	} else {
		check(t, name, c, 0)
		c.Blocks[own] = block(push("b"), lazy("or", l...), join(2))
		check(t, name+", behind a Push", c, 0)
	}
}

// P13.1: the same by hand, each edge by its name.
func TestNamedByHand(t *testing.T) {
	a := pushes(1)
	check(t, "the next one", codeOf(block(lazy("or", 1)), a), 1)
	check(t, "its own", codeOf(block(lazy("or", 0)), a), 0)
	check(t, "its own, the second one", codeOf(a, block(lazy("or", 1)), a), 0)
	check(t, "one ahead", codeOf(a, block(lazy("or", 0)), a), 0)
	check(t, "one right ahead", codeOf(a, a, block(lazy("or", 1)), a), 0)
	check(t, "the last one", codeOf(block(lazy("or", 3)), a, a, a), 1)
	check(t, "one behind the last one", codeOf(block(lazy("or", 4)), a, a, a), 0)
	check(t, "of the last one, one behind it", codeOf(a, block(lazy("or", 2))), 0)
	check(t, "one below 0", codeOf(block(lazy("or", -1)), a), 0)
	check(t, "the same one twice", codeOf(block(lazy("or", 1, 1)), a), 1)
	check(t, "the same one by two", codeOf(block(lazy("or", 1), lazy("or", 1), join(2)), a), 2)
	check(t, "the same one by two blocks", codeOf(block(lazy("or", 1, 2)), block(lazy("or", 2)), a), 1)
	check(t, "the last ones first", codeOf(block(lazy("or", 3, 2, 1)), a, a, a), 1)
	check(t, "two that name one another", codeOf(block(lazy("or", 1)), block(lazy("or", 2)), block(lazy("or", 1))), 0)
	for _, l := range [][]int{nil, {}, make([]int, 0, 5)} {
		check(t, "none", codeOf(block(lazy("or", l...)), a), 0)
		check(t, "none, of a function of two", codeOf(block(lazy("if", l...)), a), 0)
	}
	check(t, "right ones, and a wrong one last", codeOf(block(lazy("or", 1, 2, 1, 0)), a, a), 0)
	check(t, "right ones, and a wrong one first", codeOf(block(lazy("or", 3, 2, 1, 2)), a, a), 0)
	check(t, "right ones, and a wrong one between", codeOf(block(lazy("or", 1, -1, 2)), a, a), 0)
}

// ones is so many numbers, all of them 1.
func ones(n int) []int { return slices.Repeat([]int{1}, n) }

// P13.1: long lists of numbers, with a wrong one at any place.
func TestLongLists(t *testing.T) {
	a := pushes(1)
	for _, length := range []int{1, 2, stride - 1, stride, stride + 1, 2 * stride, 5*stride + 7} {
		for _, at := range []int{0, 1, length / 2, stride - 1, stride, stride + 1, length - 2, length - 1} {
			if at < 0 || at >= length {
				continue
			}
			l := ones(length)
			name := strconv.Itoa(length) + " long, at " + strconv.Itoa(at)
			check(t, name, codeOf(block(lazy("and", l...)), a), 1)
			check(t, name+", twice", codeOf(block(lazy("and", l...), lazy("or", l...), join(2)), a), 2)
			for _, wrong := range []int{0, -1, 2, least, greatest} {
				l[at] = wrong
				check(t, name+", wrong", codeOf(block(lazy("and", l...)), a), 0)
				check(t, name+", wrong, twice", codeOf(block(lazy("and", l...), lazy("or", l...), join(2)), a), 0)
			}
		}
	}
}

// P13.1 and R1: lists that lie in one another, one of them behind a wrong number, ahead of it, or around it.
func TestListsInOneAnother(t *testing.T) {
	const length = 4 * stride
	a := pushes(1)
	for _, at := range []int{0, 1, stride - 1, stride, stride + 1, 2 * stride, 3*stride + 5, length - 1} {
		l := ones(length)
		l[at] = 0
		name := "wrong at " + strconv.Itoa(at)
		two := func(x, y []int) api.Code {
			return codeOf(block(lazy("or", x...), lazy("or", y...), join(2)), a)
		}
		if at > 0 && at < length-1 {
			check(t, name+", apart", two(l[:at], l[at+1:]), 2)
			check(t, name+", apart, the last one first", two(l[at+1:], l[:at]), 2)
			check(t, name+", ahead, twice", two(l[:at], l[:at]), 2)
			check(t, name+", behind, twice", two(l[at+1:], l[(at+length)/2+1:]), 2)
			check(t, name+", ahead of it, then with it", two(l[:at], l[:at+1]), 0)
			check(t, name+", ahead of it, then around it", two(l[:at], l), 0)
			check(t, name+", behind it, then with it", two(l[at+1:], l[at:]), 0)
			check(t, name+", behind it, then around it", two(l[at+1:], l[at/2:]), 0)
			three := codeOf(block(lazy("or", l[:at]...), lazy("or", l[at+1:]...), lazy("or", l...), join(3)), a)
			check(t, name+", all but it, then all", three, 0)
			three.Blocks[0] = block(lazy("or", l[:at]...), lazy("or", l[at+1:]...), lazy("or", l[:at]...), join(3))
			check(t, name+", all but it, then the first ones", three, 3)
		}
		check(t, name+", all", two(l, l), 0)
		check(t, name+", alone", two(l[at:at+1], l[:0]), 0)
	}
}

// P13.1: a list of two blocks, whose numbers are right for the one ahead alone.
func TestListsOfTwoBlocks(t *testing.T) {
	a := pushes(1)
	for _, length := range []int{1, 3, stride - 1, stride, stride + 1, 3 * stride} {
		l := slices.Repeat([]int{2}, length)
		or := block(lazy("or", l...))
		check(t, "right for both", codeOf(or, or, a), 1)
		check(t, "right for the one ahead", codeOf(or, a, or), 0)
		check(t, "right for the one ahead, its own of the other", codeOf(or, a, or, a), 0)
		check(t, "right for the ones ahead", codeOf(or, or, or, a), 0)
		l[length-1] = 1
		check(t, "right for the one ahead but for the last number", codeOf(or, or, a), 0)
		check(t, "right for one", codeOf(or, a, a), 1)
		check(t, "right for none", codeOf(a, or, a), 0)
		check(t, "a piece of it right for the other", codeOf(or, append(block(lazy("or", l[:max(length-1, 1)]...)), get()), a), flat(length > 1))
	}
}

// flat is what Depth answers of a code of one deep, if it may be.
func flat(ok bool) int {
	if ok {
		return 1
	}
	return 0
}

// P13.1 and R1: one very long list, or pieces of it that lie in one another, in as many instructions as may be: it ends soon.
func TestLongSharedLists(t *testing.T) {
	const length, often = 1 << 23, api.MaxOps - 2
	all := ones(length)
	for name, piece := range map[string]func(i int) []int{
		"the same":                        func(i int) []int { return all },
		"later beginnings":                func(i int) []int { return all[i:] },
		"earlier beginnings":              func(i int) []int { return all[often-i:] },
		"earlier ends":                    func(i int) []int { return all[:length-i] },
		"later ends":                      func(i int) []int { return all[:length-often+i] },
		"moved":                           func(i int) []int { return all[i : length-often+i] },
		"moved back":                      func(i int) []int { return all[often-i : length-i] },
		"without room":                    func(i int) []int { return all[i : length-often+i : length-often+i] },
		"moved far":                       func(i int) []int { return all[i*256 : length/2+i*256] },
		"pieces side by side, then all":   func(i int) []int { return side(all, i, often, 0) },
		"pieces with gaps, then all":      func(i int) []int { return side(all, i, often, 1) },
		"pieces with wide gaps, then all": func(i int) []int { return side(all, i, often, stride/2) },
	} {
		var l []api.Op
		for i := range often {
			l = append(l, lazy("or", piece(i)...))
		}
		c := codeOf(append(l, join(often)), pushes(1))
		check(t, name, c, often)
		all[length/2] = 0
		check(t, name+", a wrong one", c, 0)
		all[length/2] = 1
	}
}

// side is one of the pieces of a list, which lie side by side but for so many numbers between; in the second half of all times it is the whole list.
func side(all []int, i, often, gap int) []int {
	wide := len(all) / (often / 2)
	if i >= often/2 {
		return all
	}
	return all[i*wide : (i+1)*wide-min(gap, wide-1)]
}
