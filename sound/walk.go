package sound

import (
	"wainwright/api"
	"wainwright/table"
)

// stride is how far apart the places are at which a list's numbers are remembered.
const stride = 1 << 10

// walk goes through the blocks of a code, from the last one on: a number that is
// right in one block is so in each block ahead of it.
type walk struct {
	blocks    int                   // how many there are
	functions map[string]table.Info // those that table was asked for, as it makes its map anew each time
	right     map[*int]int          // from this number on, so many are right
}

// block is the most that is ever on a block's pile; 0, if the block may not be.
func (w walk) block(ops []api.Op, own int) int {
	pile, most := 0, 0
	for _, op := range ops {
		if !formed(op) || !w.fits(op, own) || taken(op) > pile {
			return 0
		}
		pile += 1 - taken(op)
		most = max(most, pile)
	}
	if pile != 1 {
		return 0
	}
	return most
}

// fits tells whether what a formed instruction has may be in its block.
func (w walk) fits(op api.Op, own int) bool {
	switch op.Kind {
	case api.Join:
		return op.N >= 0
	case api.Do:
		return w.function(op.S, false, op.N)
	case api.Lazy:
		return w.function(op.S, true, len(op.Blocks)) && w.behind(op.Blocks, own)
	}
	return true
}

// function tells whether there is a function, lazy or not, that takes so many arguments.
func (w walk) function(name string, lazy bool, arguments int) bool {
	info, ok := w.functions[name]
	if !ok {
		if info, ok = table.Find(name); !ok {
			return false
		}
		w.functions[name] = info
	}
	return info.Lazy == lazy && arguments >= info.Min && (info.Max == 0 || arguments <= info.Max)
}

// behind tells whether numbers are of blocks that stand behind their own one.
// Codes from a caller may have one long list very often, or lists that lie in one
// another: so what was right is remembered here and there, and not asked again. It
// is remembered ahead of being asked, as the first number that is wrong ends all.
func (w walk) behind(l []int, own int) bool {
	for at := 0; at < len(l); {
		known := w.right[&l[at]]
		if known > 0 || at%stride == 0 {
			w.right[&l[at]] = max(known, len(l)-at)
		}
		if known > 0 {
			at += known
			continue
		}
		if l[at] <= own || l[at] >= w.blocks {
			return false
		}
		at++
	}
	return true
}
