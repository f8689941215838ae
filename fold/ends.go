package fold

import (
	"wainwright/api"
	"wainwright/syntax"
)

// mostSize is where syntax's Size ends: it does not tell how much greater a node is.
const mostSize = 1000000

// ends tells whether a node may be gone through. One from a caller may stand
// below itself, or have a few lists that stand in one another so often that
// there is no room for an answer. In all that Parse makes each node stands
// once, so a great one is asked for that.
func ends(n api.Node) bool {
	return syntax.Size(n) < mostSize || once(n.L)
}

// once tells whether each node below stands in one place alone. It is each node
// that is remembered, not each list: lists may begin within one another.
func once(l []api.Node) bool {
	seen := map[*api.Node]struct{}{}
	todo := [][]api.Node{l}
	for len(todo) > 0 {
		l := todo[len(todo)-1]
		todo = todo[:len(todo)-1]
		for i := range l {
			if _, again := seen[&l[i]]; again {
				return false
			}
			seen[&l[i]] = struct{}{}
			if len(l[i].L) > 0 {
				todo = append(todo, l[i].L)
			}
		}
	}
	return true
}
