package print

import (
	"slices"
	"strings"

	"wainwright/api"
)

// kind is a node of one of the Kinds, each of which is a small type.
type kind interface {
	// below is the nodes below it.
	below() []api.Node
	// frame is how many bytes its text has beside the texts of those.
	frame() int
}

// row is the nodes below one.
type row []api.Node

func (r row) below() []api.Node { return r }

type plain struct {
	row
	bytes string
}

type ref struct{ row }

type sub struct{ row }

type call struct {
	row
	function string
}

type cat struct{ row }

func (p plain) frame() int { return len(p.bytes) + strings.Count(p.bytes, "$") }

func (r ref) frame() int { return len("$()") }

func (s sub) frame() int { return len("$(:=)") }

func (c call) frame() int { return len("$( )") + len(c.function) + len(c.row) - 1 }

func (c cat) frame() int { return 0 }

// kindOf is a node by its Kind, if it has what one of that Kind has.
func kindOf(n api.Node) (kind, bool) {
	switch n.Kind {
	case api.Text:
		return plain{bytes: n.S}, len(n.L) == 0
	case api.Ref:
		return ref{n.L}, n.S == "" && len(n.L) == 1
	case api.Sub:
		return sub{n.L}, n.S == "" && len(n.L) == 3
	case api.Call:
		return call{n.L, n.S}, len(n.L) > 0
	case api.Cat:
		return cat{n.L}, n.S == "" && len(n.L) > 1 && !slices.ContainsFunc(n.L, lost)
	}
	return nil, false
}

// lost tells whether a node in a Cat would not be found again in its text. That
// is told ahead of its being written: such ones may be very many, in very little.
func lost(n api.Node) bool {
	return n.Kind == api.Cat || n.Kind == api.Text && n.S == ""
}
