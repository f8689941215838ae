package fold

import (
	"slices"

	"wainwright/api"
)

// part is a node of which what is below it is being folded, from the front on.
type part struct {
	node api.Node   // as it was handed in
	todo []api.Node // those below it that are still to be folded
	row  row        // what the others became
}

// outcome is what a node becomes. A Call that becomes a Text may stay a Call
// where that Text has no room.
type outcome struct {
	node  api.Node
	call  api.Node
	stays bool // whether it may
}

// walk folds nodes. What is still to be folded lies in a list, as nodes from a
// caller may be deeper than calls can be nested. The first part is no node's: it
// gets what the whole becomes.
type walk struct {
	parts     []part
	functions map[string]function
}

// step goes on by one node, or ends one; false if there is none left.
func (w *walk) step() bool {
	last := len(w.parts) - 1
	p := &w.parts[last]
	if len(p.todo) > 0 {
		n := p.todo[0]
		p.todo = p.todo[1:]
		w.parts = append(w.parts, part{node: n, todo: n.L, row: row{things: slices.Grow([]api.Node(nil), len(n.L))}})
		return true
	}
	if last == 0 {
		return false
	}
	o := w.outcome(*p)
	w.parts = w.parts[:last]
	w.parts[last-1].put(o)
	return true
}

// put puts what a node below has become behind those ahead of it.
func (p *part) put(o outcome) {
	if p.node.Kind != api.Cat {
		p.row.putThing(o.node)
		return
	}
	next := 0
	if len(p.todo) > 0 && isText(p.todo[0]) {
		next = len(p.todo[0].S)
	}
	p.row.put(o, next)
}

// outcome is what a node becomes, all below it being folded.
func (w *walk) outcome(p part) outcome {
	switch p.node.Kind {
	case api.Cat:
		return outcome{node: p.row.node()}
	case api.Call:
		return w.call(p.node.S, p.row.things)
	}
	return outcome{node: api.Node{Kind: p.node.Kind, S: p.node.S, L: p.row.things}}
}

// call is what a Call of folded arguments becomes.
func (w *walk) call(name string, args []api.Node) outcome {
	// Made as late as this, as most expansions call nothing.
	if w.functions == nil {
		w.functions = functions()
	}
	call := api.Node{Kind: api.Call, S: name, L: args}
	f, ok := w.functions[name]
	if !ok || len(args) < f.least || len(args) > f.most {
		return outcome{node: call}
	}
	n, ok := f.known(args)
	if !ok {
		return outcome{node: call}
	}
	return outcome{node: n, call: call, stays: true}
}

func isText(n api.Node) bool { return n.Kind == api.Text && len(n.L) == 0 }
