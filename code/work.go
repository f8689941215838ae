package code

import (
	"wainwright/api"
	"wainwright/table"
)

// work makes instructions. What is still to be made lies in a list, as nodes
// from a caller may be deeper than calls can be nested.
type work struct {
	parts  []part
	number func(count int) []int      // makes new blocks, and tells their numbers
	put    func(block int, op api.Op) // puts an instruction behind those of a block
	lazy   func(function string) bool
}

// part is nodes, one behind the other, whose instructions are still to be made.
type part struct {
	nodes  []api.Node
	block  int    // in which those of the first one stand
	apart  bool   // whether those of each stand in a block of its own, one behind the other
	behind api.Op // what stands behind them, if they stand in one
}

// apart lays down nodes that have new blocks, each its own, and answers the numbers of these.
func (w *work) apart(l []api.Node) []int {
	blocks := w.number(len(l))
	if len(l) > 0 {
		w.parts = append(w.parts, part{nodes: l, block: blocks[0], apart: true})
	}
	return blocks
}

// step goes on by one node, or puts what stands behind several; false if the node has no form.
func (w *work) step() bool {
	p := &w.parts[len(w.parts)-1]
	if len(p.nodes) > 0 {
		n, block := p.nodes[0], p.block
		p.nodes = p.nodes[1:]
		if p.apart {
			p.block++
		}
		return w.node(n, block)
	}
	if !p.apart {
		w.put(p.block, p.behind)
	}
	w.parts = w.parts[:len(w.parts)-1]
	return true
}

// node puts the instruction of a lazy call at once, as its blocks are numbered
// ahead of those within them; of another node it lays down what stands ahead of it.
func (w *work) node(n api.Node, block int) bool {
	if n.Kind == api.Call && w.lazy(n.S) {
		w.put(block, api.Op{Kind: api.Lazy, S: n.S, Blocks: w.apart(n.L)})
		return true
	}
	op, ok := plainOp(n)
	if ok {
		w.parts = append(w.parts, part{nodes: n.L, block: block, behind: op})
	}
	return ok
}

// plainOp is the instruction behind those of the nodes below one; false if it has no form.
func plainOp(n api.Node) (api.Op, bool) {
	switch n.Kind {
	case api.Text:
		return api.Op{Kind: api.Push, S: n.S}, len(n.L) == 0
	case api.Ref:
		return api.Op{Kind: api.Get}, len(n.L) == 1
	case api.Sub:
		return api.Op{Kind: api.SubGet}, len(n.L) == 3
	case api.Cat:
		return api.Op{Kind: api.Join, N: len(n.L)}, true
	case api.Call:
		return api.Op{Kind: api.Do, N: len(n.L), S: n.S}, true
	}
	return api.Op{}, false
}

// asker tells of functions whether they are lazy. Table is asked once of each,
// as it makes its map anew each time.
func asker() func(function string) bool {
	known := map[string]table.Info{}
	return func(function string) bool {
		info, ok := known[function]
		if !ok {
			info, _ = table.Find(function)
			known[function] = info
		}
		return info.Lazy
	}
}
