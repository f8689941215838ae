package print

import (
	"testing"

	"wainwright/api"
	"wainwright/syntax"
)

// levelsOf is how many nodes of a node are within one another.
func levelsOf(n api.Node) int {
	most := 0
	for _, below := range n.L {
		most = max(most, levelsOf(below))
	}
	return most + 1
}

// checkRoom asks that a node needs just the room of a text.
func checkRoom(t *testing.T, n api.Node, s string) {
	t.Helper()
	want := extent{len(s), levelsOf(n)}
	if got, ok := (ruler{map[place]extent{}}).node(n, want); got != want || !ok {
		t.Fatalf("%q is measured as %v, %v, want %v", s, got, ok, want)
	}
	for _, less := range []extent{{want.bytes - 1, want.levels}, {want.bytes, want.levels - 1}, {-1, want.levels}, {want.bytes, 0}, {}} {
		if got, ok := (ruler{map[place]extent{}}).node(n, less); ok || got != (extent{}) {
			t.Fatalf("%q is measured as %v, %v, where there is room for %v", s, got, ok, less)
		}
	}
}

// What is measured is what is written, and needs no more room, and no less.
func TestRoom(t *testing.T) {
	see := func(s string) {
		n, err := syntax.Parse(s)
		if err != api.OK {
			return
		}
		if text, ok := Print(n); ok {
			checkRoom(t, n, text)
		}
	}
	madeTexts(longer(), 20000, see)
	for _, out := range references() {
		for _, in := range inner() {
			n := out.of(in.n)
			checkRoom(t, n, out.ahead+in.want+out.behind)
			want := "$(or " + out.ahead + in.want + out.behind + ",x," + out.ahead + in.want + out.behind + ")"
			checkRoom(t, callOf("or", n, text("x"), n), want)
			checkRoom(t, callOf("or", n, callOf("or", n, text("x"), n)), "$(or "+out.ahead+in.want+out.behind+","+want+")")
		}
	}
}

// What a node is measured as does not hang on how long its lists are elsewhere.
func TestRoomOfSharedLists(t *testing.T) {
	l := []api.Node{refs("a"), text("b"), subs("c", "d", "e"), refTo(refTo(refTo(text("f"))))}
	end := func(from, to int) api.Node { return api.Node{Kind: api.Cat, L: l[from:to]} }
	checkRoom(t, callOf("or", end(0, 2), end(0, 3), end(0, 4), end(0, 2)), "$(or $(a)b,$(a)b$(c:d=e),$(a)b$(c:d=e)$($($(f))),$(a)b)")
	checkRoom(t, callOf("or", end(0, 4), end(1, 3), end(0, 4), end(0, 2)), "$(or $(a)b$(c:d=e)$($($(f))),b$(c:d=e),$(a)b$(c:d=e)$($($(f))),$(a)b)")
}
