package fold

import (
	"slices"
	"strings"
	"testing"

	"wainwright/api"
	"wainwright/syntax"
	"wainwright/table"
)

// alike tells whether nodes are so, field by field; nil and an empty list are one.
func alike(a, b api.Node) bool {
	return a.Kind == b.Kind && a.S == b.S && slices.EqualFunc(a.L, b.L, alike)
}

// copied is a node of its own.
func copied(n api.Node) api.Node {
	l := make([]api.Node, len(n.L))
	for i, below := range n.L {
		l[i] = copied(below)
	}
	return api.Node{Kind: n.Kind, S: n.S, L: l}
}

// checked is what a node that Parse makes is folded to; all that P14.1 promises is asked of it but for what a run says.
func checked(t *testing.T, n api.Node) api.Node {
	t.Helper()
	before := copied(n)
	got := Fold(n)
	if !alike(n, before) {
		t.Errorf("%.300s has become %.300s", show(before), show(n))
	}
	for name, wrong := range map[string]string{"form": wrongForm(got), "what is left": left(got, 0), "memory": common(got, n)} {
		if wrong != "" {
			t.Errorf("Fold of %.300s: %.300s: %s: %s", show(n), show(got), name, wrong)
		}
	}
	if syntax.Size(got) > syntax.Size(n) {
		t.Errorf("Fold of %.300s: %.300s: Size is greater", show(n), show(got))
	}
	if again := Fold(got); !alike(got, again) {
		t.Errorf("Fold of %.300s: %.300s, and of that %.300s", show(n), show(got), show(again))
	}
	return got
}

// wrongForm tells what of a node has not P10.2's form, or nothing. A Cat may stand within a Cat.
func wrongForm(n api.Node) string {
	for _, below := range n.L {
		if wrong := wrongForm(below); wrong != "" {
			return wrong
		}
	}
	switch n.Kind {
	case api.Text:
		return unless(len(n.L) == 0, "a Text with a list")
	case api.Ref:
		return unless(len(n.L) == 1 && n.S == "", "a Ref not of one")
	case api.Sub:
		return unless(len(n.L) == 3 && n.S == "", "a Sub not of three")
	case api.Call:
		info, ok := table.Find(n.S)
		return unless(ok && len(n.L) >= info.Min && (info.Max == 0 || len(n.L) <= info.Max), "a Call that may not be")
	case api.Cat:
		for i, below := range n.L {
			if below.Kind == api.Text && (below.S == "" || i > 0 && n.L[i-1].Kind == api.Text) {
				return "a Text without bytes, or two side by side"
			}
		}
		return unless(len(n.L) > 1 && n.S == "", "a Cat not of two at least")
	}
	return "a kind that is none"
}

func unless(ok bool, wrong string) string {
	if ok {
		return ""
	}
	return wrong
}

// left tells what of a node should have been folded, or nothing. Beside is how many bytes the Texts have that it stands between in a Cat.
func left(n api.Node, beside int) string {
	if n.Kind == api.Call {
		known, ok := known(n)
		if ok && (known.Kind != api.Text || beside == 0 || beside+len(known.S) <= api.MaxText) {
			return "a Call of " + n.S
		}
	}
	for i, below := range n.L {
		beside := 0
		if n.Kind == api.Cat {
			beside = textAt(n.L, i-1) + textAt(n.L, i+1)
		}
		if wrong := left(below, beside); wrong != "" {
			return wrong
		}
	}
	return ""
}

// textAt is how many bytes the Text at a place of a list has, if there is one.
func textAt(l []api.Node, at int) int {
	if at < 0 || at >= len(l) || l[at].Kind != api.Text {
		return 0
	}
	return len(l[at].S)
}

// known is what a Call has to become, if it has to become another node.
func known(n api.Node) (api.Node, bool) {
	put := func(n api.Node) bool { return n.Kind == api.Text && len(n.S) <= api.MaxText }
	if n.S == "if" && put(n.L[0]) {
		l := append(n.L[1:len(n.L):len(n.L)], text(""))
		if len(wordsOf(n.L[0].S)) == 0 {
			return l[1], true
		}
		return l[0], true
	}
	must := []string{"strip", "words", "firstword", "lastword", "subst", "findstring", "addsuffix", "addprefix", "sort", "dir", "notdir"}
	if !slices.Contains(must, n.S) {
		return api.Node{}, false
	}
	var args []string
	for _, below := range n.L {
		if !put(below) {
			return api.Node{}, false
		}
		args = append(args, below.S)
	}
	if tooGreat(n.S, args) {
		return api.Node{}, false
	}
	s := textFunction(n.S, args)
	return text(s), len(s) <= api.MaxText
}

// tooGreat tells whether a value would be so great that it is not to be made here.
func tooGreat(name string, args []string) bool {
	const great = 100 * api.MaxText
	switch name {
	case "subst":
		return args[0] != "" && strings.Count(args[2], args[0])*len(args[1]) > great
	case "addsuffix", "addprefix":
		return len(wordsOf(args[1]))*len(args[0]) > great
	}
	return false
}

// common tells whether lists of a node lie in one another, or in those of another node, or nothing.
func common(n, other api.Node) string {
	seen := map[*api.Node]bool{}
	var put func(n api.Node)
	put = func(n api.Node) {
		for i := range n.L[:cap(n.L)] {
			seen[&n.L[:cap(n.L)][i]] = true
		}
		for _, below := range n.L {
			put(below)
		}
	}
	put(other)
	wrong := ""
	var ask func(n api.Node)
	ask = func(n api.Node) {
		for i := range n.L[:cap(n.L)] {
			if seen[&n.L[:cap(n.L)][i]] {
				wrong = "a list lies in another one"
			}
			seen[&n.L[:cap(n.L)][i]] = true
		}
		for _, below := range n.L {
			ask(below)
		}
	}
	ask(n)
	return wrong
}
