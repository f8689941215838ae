package print

import "wainwright/api"

// mostBytes is how long a text may be: nothing is promised beyond it, and a few
// lists that stand in one another often enough ask for more than there is room for.
const mostBytes = 1<<31 - 1

// mostLevels is how many nodes may be within one another: MaxNest references,
// a Cat around each of them, and a Text in the innermost one.
const mostLevels = 2*api.MaxNest + 1

// extent is how long the texts of nodes are, and how many nodes are within one another.
type extent struct {
	bytes, levels int
}

// place is where a list of nodes lies: two lists of one place are the same.
type place struct {
	first  *api.Node
	length int
}

// ruler measures texts ahead of their being written, as nodes from a caller may
// be very deep, stand in many lists, or even below themselves. A list is measured once.
type ruler struct {
	known map[place]extent
}

// node is the extent of a node, if it has the shape of its Kind and there is room for it.
func (r ruler) node(n api.Node, room extent) (extent, bool) {
	k, ok := kindOf(n)
	if !ok || room.levels == 0 || k.frame() > room.bytes {
		return extent{}, false
	}
	e, ok := r.list(k.below(), extent{room.bytes - k.frame(), room.levels - 1})
	if !ok {
		return extent{}, false
	}
	return extent{e.bytes + k.frame(), e.levels + 1}, true
}

// list is the extent of nodes side by side, if there is room for them.
func (r ruler) list(l []api.Node, room extent) (extent, bool) {
	if len(l) == 0 {
		return extent{}, true
	}
	p := place{&l[0], len(l)}
	if e, ok := r.known[p]; ok {
		return e, e.bytes <= room.bytes && e.levels <= room.levels
	}
	var all extent
	for _, n := range l {
		e, ok := r.node(n, extent{room.bytes - all.bytes, room.levels})
		if !ok {
			return extent{}, false
		}
		all = extent{all.bytes + e.bytes, max(all.levels, e.levels)}
	}
	r.known[p] = all
	return all, true
}
