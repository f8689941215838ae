package fold

import (
	"testing"

	"wainwright/api"
)

const greatest, least = 1<<63 - 1, -1 << 63

// noForms is nodes that have not the form of P10.2.
func noForms() []api.Node {
	a, b := text("a"), refs("b")
	return []api.Node{
		{}, {S: "strip"}, {L: []api.Node{a}}, {Kind: 6, S: "if", L: []api.Node{a, b}}, {Kind: -1, S: "if", L: []api.Node{a, b}}, {Kind: greatest}, {Kind: least, S: "a"},
		{Kind: 1<<32 + api.Text, S: "a"}, {Kind: 1<<8 + api.Call, S: "strip", L: []api.Node{a}}, {Kind: 1<<16 + api.Cat, L: []api.Node{a, a}},
		{Kind: api.Text, S: "a", L: []api.Node{a}}, {Kind: api.Text, L: []api.Node{{}}}, {Kind: api.Text, S: "a", L: []api.Node{a, b, a}},
		{Kind: api.Ref}, {Kind: api.Ref, S: "a"}, {Kind: api.Ref, L: []api.Node{a, b}}, {Kind: api.Ref, S: "a", L: []api.Node{a}}, {Kind: api.Sub}, {Kind: api.Sub, L: []api.Node{a, b}}, {Kind: api.Sub, L: []api.Node{a, b, a, b}}, {Kind: api.Sub, S: "a", L: []api.Node{a, a, a}},
		{Kind: api.Call}, {Kind: api.Call, S: "strip"}, {Kind: api.Call, S: "if"}, {Kind: api.Call, S: "if", L: []api.Node{a}}, {Kind: api.Call, L: []api.Node{a}}, {Kind: api.Call, S: "subst", L: []api.Node{a, a}},
	}
}

// R1: nodes that have not the form of P10.2 stay, by themselves and within others; what stands below them is folded, and what hangs on them is not known.
func TestNoForms(t *testing.T) {
	for _, n := range noForms() {
		for _, c := range []struct{ n, want api.Node }{
			{n, n},
			{refTo(n), refTo(n)},
			{subOf(calls("words"), n, n), subOf(calls("words"), n, n)},
			{callOf("strip", n), callOf("strip", n)},
			{callOf("subst", calls("strip", " a "), n, calls("if", "", "b")), callOf("subst", text("a"), n, text(""))},
			{callOf("if", n, calls("words", "a"), calls("if", "b", "c")), callOf("if", n, text("1"), text("c"))},
			{callOf("if", text(" "), text("a"), n), n},
			{callOf("if", text("a"), n), n},
			{callOf("or", n, calls("words", "a")), callOf("or", n, text("1"))},
			{catOf(n, calls("words", "")), catOf(n, text("0"))},
			{catOf(text("a"), calls("strip", "b"), n, calls("strip", "c"), text("d"), n), catOf(text("ab"), n, text("cd"), n)},
			{catOf(n, calls("strip", " ")), n},
			{catOf(n), n},
			{api.Node{Kind: 9, S: "z", L: []api.Node{n, calls("strip", " a ")}}, api.Node{Kind: 9, S: "z", L: []api.Node{n, text("a")}}},
		} {
			before := copied(c.n)
			got := Fold(c.n)
			if !alike(got, c.want) || !alike(c.n, before) || !alike(Fold(got), got) || common(got, c.n) != "" {
				t.Errorf("Fold of %s: %s, want %s", show(before), show(got), show(c.want))
			}
		}
	}
}

// R3: nil and an empty list are one, and so is room behind a list.
func TestEmptyLists(t *testing.T) {
	empty := func(s string) api.Node { return api.Node{Kind: api.Text, S: s, L: make([]api.Node, 0, 3)} }
	check(t, empty(" a "), text(" a "))
	check(t, callOf("strip", empty(" a ")), text("a"))
	check(t, catOf(empty("a"), callOf("if", empty(""), empty("b")), empty("c")), text("ac"))
	check(t, callOf("if", empty("a"), refTo(empty("b"))), refs("b"))
	l := []api.Node{text("a"), text("b"), text("c"), calls("strip", " d ")}
	if got := Fold(api.Node{Kind: api.Call, S: "or", L: l[:2]}); !alike(got, calls("or", "a", "b")) || len(l[3].L) != 1 {
		t.Errorf("with room behind: %s, %s", show(got), show(l[3]))
	}
}

// chain is a text so many times within another node.
func chain(deep int, s string, of func(api.Node) api.Node) api.Node {
	n := text(s)
	for range deep {
		n = of(n)
	}
	return n
}

// depth is how deep a node is that has one below it at most, and the innermost one.
func depth(n api.Node) (int, api.Node) {
	deep := 0
	for ; len(n.L) > 0; n = n.L[len(n.L)-1] {
		deep++
	}
	return deep, n
}

// P14.1 and R1: nodes deeper than calls can be nested.
func TestVeryDeep(t *testing.T) {
	const deep = 1200000
	for _, of := range []func(api.Node) api.Node{
		func(n api.Node) api.Node { return callOf("strip", n) },
		func(n api.Node) api.Node { return callOf("if", text("a"), n) },
		func(n api.Node) api.Node { return callOf("if", text(""), refs("a"), n) },
		func(n api.Node) api.Node { return callOf("subst", text("a"), text("b"), n) },
		func(n api.Node) api.Node { return catOf(n) },
		func(n api.Node) api.Node { return catOf(calls("if", "", "b"), n) },
	} {
		for _, times := range []int{1000, deep / 6} {
			if got := Fold(chain(times, "x", of)); !alike(got, text("x")) {
				t.Errorf("%d deep: kind %d, %q", times, got.Kind, got.S)
			}
		}
	}
	for _, of := range []func(api.Node) api.Node{
		refTo,
		func(n api.Node) api.Node { return callOf("or", calls("strip", " "), n) },
		func(n api.Node) api.Node { return catOf(refs("a"), n) },
		func(n api.Node) api.Node { return callOf("info", callOf("if", text("a"), n, refs("a"))) },
		func(n api.Node) api.Node { return subOf(refs("a"), calls("words"), n) },
		func(n api.Node) api.Node { return api.Node{Kind: 7, L: []api.Node{n}} },
	} {
		if got, last := depth(Fold(chain(deep/6, "x", of))); got != deep/6 || !alike(last, text("x")) {
			t.Errorf("%d deep: %d, %s", deep/6, got, show(last))
		}
	}
	if got, last := depth(Fold(chain(deep, "x", refTo))); got != deep || !alike(last, text("x")) {
		t.Errorf("%d deep: %d, %s", deep, got, show(last))
	}
	if got := Fold(chain(deep, "x", func(n api.Node) api.Node { return callOf("strip", n) })); !alike(got, text("x")) {
		t.Errorf("%d deep: kind %d, %q", deep, got.Kind, got.S)
	}
}

// P14.1: very many side by side.
func TestVeryWide(t *testing.T) {
	const many = 1200000
	row := func(of func() api.Node) []api.Node {
		l := make([]api.Node, many)
		for i := range l {
			l[i] = of()
		}
		return l
	}
	texts := row(func() api.Node { return text("x") })
	if got := Fold(callOf("or", texts...)); len(got.L) != many || !alike(got.L[many-1], text("x")) {
		t.Errorf("arguments: %d", len(got.L))
	}
	got := Fold(catOf(texts...))
	if len(got.L) != (many+most-1)/most || got.L[0].S != xs(most) || len(got.L[len(got.L)-1].S) != many%most {
		t.Errorf("Texts: %d", len(got.L))
	}
	got = Fold(catOf(row(func() api.Node { return calls("if", "a", "x") })...))
	if len(got.L) != 2*(many/(most+1))+1 || wrongForm(got) != "" || !alike(got.L[1], calls("if", "a", "x")) {
		t.Errorf("Calls that become Texts: %d, %s", len(got.L), wrongForm(got))
	}
	if got := Fold(catOf(row(func() api.Node { return calls("if", "", "x") })...)); !alike(got, text("")) {
		t.Errorf("Calls that become nothing: %d", len(got.L))
	}
	if got := Fold(catOf(row(func() api.Node { return refs("x") })...)); len(got.L) != many {
		t.Errorf("Refs: %d", len(got.L))
	}
}
