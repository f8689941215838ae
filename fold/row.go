package fold

import (
	"strings"

	"wainwright/api"
)

// row is what has become of nodes side by side. In a Cat, Texts wait till
// something else follows, so that they become one.
type row struct {
	things  []api.Node
	waiting []string
	length  int // of all that waits together
}

// put puts a thing of a Cat behind the others; next is the length of the Text
// that follows, 0 if none does.
func (r *row) put(o outcome, next int) {
	switch {
	case !isText(o.node):
		r.putThing(o.node)
	case o.stays && !r.room(len(o.node.S), next):
		r.putThing(o.call)
	default:
		r.putText(o.node.S)
	}
}

// room tells whether a Text may stand between what waits and the one that
// follows. They become one, which may be no longer than a value: an expansion
// would end at it, ahead of the messages and errors of what is still to come.
func (r *row) room(own, next int) bool {
	all := r.length + own + next
	alone := all == max(r.length, own, next)
	return alone || all <= api.MaxText
}

// putThing puts a node behind the others as it is.
func (r *row) putThing(n api.Node) {
	r.settle()
	r.things = append(r.things, n)
}

// putText lets a Text wait. In a Cat that Parse doesn't make it may be too long
// for what waits already: there they stay apart.
func (r *row) putText(s string) {
	if !r.room(len(s), 0) {
		r.settle()
	}
	r.waiting = append(r.waiting, s)
	r.length += len(s)
}

// settle makes what waits one Text.
func (r *row) settle() {
	if r.length > 0 {
		r.things = append(r.things, api.Node{Kind: api.Text, S: strings.Join(r.waiting, "")})
		r.waiting, r.length = r.waiting[:0], 0
	}
}

// node is all of a Cat as one.
func (r *row) node() api.Node {
	r.settle()
	switch len(r.things) {
	case 0:
		return api.Node{Kind: api.Text}
	case 1:
		return r.things[0]
	}
	return api.Node{Kind: api.Cat, L: r.things}
}
