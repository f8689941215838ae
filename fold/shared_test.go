package fold

import (
	"slices"
	"strings"
	"sync"
	"testing"

	"wainwright/api"
)

// checkNone asks that a node that has no end becomes the zero node.
func checkNone(t *testing.T, name string, n api.Node) {
	t.Helper()
	if got := Fold(n); !alike(got, api.Node{}) {
		t.Errorf("%s: kind %d, %.100q, %d below", name, got.Kind, got.S, len(got.L))
	}
}

// checkShared holds what a node is folded to against another one, and asks that it shares no memory.
func checkShared(t *testing.T, n, want api.Node) {
	t.Helper()
	got := Fold(n)
	if !alike(got, want) || common(got, n) != "" || !alike(Fold(got), got) {
		t.Errorf("Fold of %.300s: %.300s, want %.300s, %s", show(n), show(got), show(want), common(got, n))
	}
}

// R1 and R3: lists that stand in several places are folded in each of them.
func TestShared(t *testing.T) {
	l := []api.Node{text("a"), callOf("strip", text(" b ")), text("c")}
	some := func(kind int, s string, from, to int) api.Node { return api.Node{Kind: kind, S: s, L: l[from:to]} }
	a, b, c := text("a"), text("b"), text("c")
	checkShared(t, callOf("or", some(api.Cat, "", 0, 3), some(api.Sub, "", 0, 3), some(api.Cat, "", 1, 3)), callOf("or", text("abc"), subOf(a, b, c), text("bc")))
	checkShared(t, catOf(some(api.Sub, "", 0, 3), some(api.Ref, "", 1, 2), some(api.Sub, "", 0, 3), some(api.Ref, "", 1, 2)), catOf(subOf(a, b, c), refTo(b), subOf(a, b, c), refTo(b)))
	checkShared(t, catOf(some(api.Call, "if", 0, 3), some(api.Call, "if", 1, 3), some(api.Call, "subst", 0, 3)), text("bcc"))
	checkShared(t, some(api.Call, "or", 0, 2), callOf("or", a, b))
	x := callOf("or", refTo(a), refTo(calls("words", "a b")))
	checkShared(t, catOf(x, x, callOf("if", a, x, x)), catOf(callOf("or", refTo(a), refs("2")), callOf("or", refTo(a), refs("2")), callOf("or", refTo(a), refs("2"))))
	if !alike(l[1], callOf("strip", text(" b "))) {
		t.Errorf("a node has become %s", show(l[1]))
	}
}

// doubled is a node that stands 2 to the so manieth times.
func doubled(times int, n api.Node, of func(l ...api.Node) api.Node) api.Node {
	for range times {
		n = of(n, n)
	}
	return n
}

func orOf(l ...api.Node) api.Node { return callOf("or", l...) }

func substOf(l ...api.Node) api.Node { return callOf("subst", text("y"), l[0], l[1]) }

// R1: a few lists that ask for more nodes than there is room for.
func TestDoubled(t *testing.T) {
	for times := range 12 {
		checkShared(t, doubled(times, text("x"), catOf), text(xs(1<<times)))
		checkShared(t, doubled(times, text("x"), substOf), text("x"))
		checkShared(t, doubled(times, calls("words", ""), orOf), doubled(times, text("0"), orOf))
		checkShared(t, doubled(times, refs("x"), catOf), doubled(times, refs("x"), catOf))
	}
	if got := Fold(doubled(18, text("x"), catOf)); len(got.L) != 2 || got.L[1].L[0].S != xs(most) {
		t.Errorf("doubled 18 times: %d below", len(got.L))
	}
	for _, of := range []func(l ...api.Node) api.Node{catOf, orOf, substOf} {
		for _, times := range []int{25, 30, 31, 32, 40, 62, 63, 64, 100, 10000} {
			checkNone(t, "doubled", doubled(times, text("x"), of))
			checkNone(t, "doubled, in an if that does not choose it", callOf("if", text("a"), text("b"), doubled(times, text("x"), of)))
		}
	}
	const many = 300000
	l := make([]api.Node, many)
	for i := range l {
		l[i] = api.Node{Kind: api.Cat, L: l[i+1:]}
	}
	checkNone(t, "all ends of a list in one another", l[0])
	for i := range l {
		l[i] = api.Node{Kind: api.Call, S: "or", L: l[many-i:]}
	}
	checkNone(t, "all ends of a list in one another, the shortest first", l[many-1])
}

// below is a node of a kind with so many below it, one of which is itself; the others are Texts.
func below(kind int, s string, number, itself int) api.Node {
	l := make([]api.Node, number)
	for i := range l {
		l[i] = text("a")
	}
	l[itself] = api.Node{Kind: kind, S: s, L: l}
	return l[itself]
}

// R1: nodes below themselves.
func TestBelowThemselves(t *testing.T) {
	for kind := range 8 {
		for number := 1; number < 4; number++ {
			for itself := range number {
				for _, s := range []string{"", "if", "strip", "subst", "or"} {
					checkNone(t, "below itself", below(kind, s, number, itself))
				}
			}
		}
	}
	checkNone(t, "below itself, where an if does not choose it", callOf("if", text("a"), text("b"), below(api.Cat, "", 2, 1)))
	checkNone(t, "below itself, behind others", catOf(text("a"), refs("b"), refTo(below(api.Call, "strip", 1, 0))))
	l := make([]api.Node, 1000)
	for i := range l {
		l[i] = api.Node{Kind: api.Cat, L: l}
	}
	checkNone(t, "many below themselves", l[0])
	ring := make([]api.Node, 2000000)
	for i := range ring {
		ring[i] = api.Node{Kind: api.Ref, L: ring[(i+1)%len(ring):][:1]}
	}
	checkNone(t, "below itself, by a long way", ring[0])
}

// R1: one great Text in very many places is not made anew in each of them.
func TestGreatTextOften(t *testing.T) {
	const many = 300000
	l := slices.Repeat([]api.Node{text(xs(most))}, many)
	for _, of := range []func(l ...api.Node) api.Node{catOf, orOf, func(l ...api.Node) api.Node { return callOf("strip", catOf(l...)) }} {
		for got := Fold(of(l...)); ; got = got.L[0] {
			if len(got.L) == 1 {
				continue
			}
			if len(got.L) != many || got.L[many-1].S != xs(most) {
				t.Errorf("%d below", len(got.L))
			}
			break
		}
	}
}

// some is nodes that have something to be folded, and what they become.
func some(t *testing.T) map[string]string {
	return map[string]string{"a": "a", "$(a)": "$(a)", "a$(strip  b )": "ab", "$(if a,$(b)$(c),d)$(e)": "", "$(or $(words ),$(a:b=$(sort c)))": "$(or 0,$(a:b=c))", "x$(strip y)$(a$(if ,b))z$(strip w)": "xy$(a)zw"}
}

// R3 and R4: what becomes of a node, or of an answer, changes no answer, neither an earlier nor a later one.
func TestAnswersStayApart(t *testing.T) {
	for s := range some(t) {
		n := parsed(t, s)
		want := copied(Fold(n))
		kept, spoilt := Fold(n), Fold(n)
		spoil(&spoilt)
		if again := Fold(n); !alike(again, want) || !alike(n, parsed(t, s)) {
			t.Errorf("%s: %s behind a spoilt answer, want %s", s, show(again), show(want))
		}
		spoil(&n)
		if !alike(kept, want) || !alike(Fold(parsed(t, s)), want) {
			t.Errorf("%s: %s behind a spoilt node, want %s", s, show(kept), show(want))
		}
		spoil(&kept)
	}
}

// spoil changes each field of all nodes, and of what lists have room for.
func spoil(n *api.Node) {
	l := n.L[:cap(n.L)]
	for i := range l {
		spoil(&l[i])
	}
	n.Kind, n.S, n.L = api.Call, "spoilt", []api.Node{text("spoilt")}
}

// R4: an answer hangs on the node alone: not on what was folded ahead, nor on what is folded at the same time.
func TestSideBySide(t *testing.T) {
	var done sync.WaitGroup
	for range 8 {
		done.Go(func() {
			for range 200 {
				for s, want := range some(t) {
					got := Fold(parsed(t, s))
					if want != "" && !alike(got, parsed(t, want)) || want == "" && !alike(got, catOf(catOf(refs("b"), refs("c")), refs("e"))) {
						t.Errorf("Fold of %s: %s", s, show(got))
					}
				}
				if got := Fold(calls("strip", strings.Repeat(" a ", 100))); len(got.S) != 199 {
					t.Errorf("Fold of a strip: %s", show(got))
				}
			}
		})
	}
	done.Wait()
}
