package syntax

import "wainwright/api"

// place is where a list of nodes lies: two lists of one place are the same.
type place struct {
	first  *api.Node
	length int
}

// plainly is how many nodes are laid down before any list is remembered: that
// costs far more than to hold it, and a text of MaxText bytes has less nodes.
const plainly = 2 * api.MaxText

// walk holds lists of nodes against each other, side by side. Nodes from a
// caller may be very deep, may stand in many lists, or even below themselves:
// so what is still to be held lies in a list, and lists that were laid down
// together count as alike from then on. A difference ends the walk, so what
// counts as alike is so if the walk comes to its end.
type walk struct {
	todo [][2][]api.Node
	laid int // nodes
	// like leads from a place to another one that counts as like it; all that
	// are like one another lead to one. So no more is laid down than there are
	// lists, where pairs of lists, each for itself, would be far more.
	like map[place]place
}

// ask lays two lists of one length down to be held, unless they count as alike.
func (w *walk) ask(a, b []api.Node) {
	if len(a) == 0 || w.laid > plainly && w.alike(a, b) {
		return
	}
	w.laid += len(a)
	w.todo = append(w.todo, [2][]api.Node{a, b})
}

// alike tells whether two lists count as alike; from then on they do.
func (w *walk) alike(a, b []api.Node) bool {
	p, q := w.last(a), w.last(b)
	if p == q {
		return true
	}
	w.like[p] = q
	return false
}

// last is the place that like leads to in the end. The way there is made
// shorter as it is gone.
func (w *walk) last(l []api.Node) place {
	p := place{&l[0], len(l)}
	for {
		next, more := w.like[p]
		if !more {
			return p
		}
		if behind, more := w.like[next]; more {
			w.like[p] = behind
		}
		p = next
	}
}

// step holds two lists against each other, and tells whether they may be alike.
func (w *walk) step() bool {
	pair := w.todo[len(w.todo)-1]
	w.todo = w.todo[:len(w.todo)-1]
	for i, a := range pair[0] {
		b := pair[1][i]
		if a.Kind != b.Kind || a.S != b.S || len(a.L) != len(b.L) {
			return false
		}
		w.ask(a.L, b.L)
	}
	return true
}
