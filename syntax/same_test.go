package syntax

import (
	"testing"

	"wainwright/api"
)

// checkSame asks Same of two expansions, both ways round.
func checkSame(t *testing.T, name string, a, b api.Node, want bool) {
	t.Helper()
	if Same(a, b) != want || Same(b, a) != want {
		t.Errorf("%s: not %v", name, want)
	}
}

// others is expansions of which no two are alike, many of them but for one place.
func others() []api.Node {
	return []api.Node{
		{},
		text(""), text("a"), text("b"), text("A"), text("aa"), text("$"), text("\x00"),
		{Kind: api.Ref}, {Kind: api.Cat}, {Kind: -1}, {Kind: 6}, {Kind: 6, S: "a"},
		ref(""), ref("a"), ref("b"), refTo(ref("a")), refTo(ref("b")), refTo(refTo(ref("a"))),
		{Kind: api.Ref, S: "a", L: []api.Node{text("a")}},
		sub("a", "b", "c"), sub("b", "b", "c"), sub("a", "c", "c"), sub("a", "b", "b"), sub("b", "a", "c"), sub("a", "c", "b"),
		cat(text("a"), text("b"), text("c")), cat(text("a"), text("b")), cat(text("b"), text("a")), cat(text("a"), ref("b")), cat(ref("a"), text("b")),
		cat(text("a"), text("b"), text("")), cat(text("a")), cat(cat(text("a"), text("b"))),
		calls("or", "a"), calls("or", "b"), calls("and", "a"), calls("", "a"), calls("or", "a", "b"), calls("or", "b", "a"), calls("or"),
		call("or", ref("a")), call("or", text("a"), ref("b")), call("or", ref("a"), text("b")),
		cat(ref("a"), call("or", text("x"), sub("p", "q", "r"))),
		cat(ref("a"), call("or", text("x"), sub("p", "q", "s"))),
		cat(ref("a"), call("or", text("x"), sub("p", "q", "r")), text("x")),
		cat(ref("a"), call("or", text("x"), refTo(sub("p", "q", "r")))),
		cat(ref("a"), call("or", sub("p", "q", "r"), text("x"))),
		cat(ref("b"), call("or", text("x"), sub("p", "q", "r"))),
		cat(ref("a"), call("and", text("x"), sub("p", "q", "r"))),
	}
}

// P10.2: each expansion is like itself alone.
func TestSame(t *testing.T) {
	for i, a := range others() {
		for k, b := range others() {
			if Same(a, b) != (i == k) {
				t.Errorf("Same(%s, %s) = %v", show(a), show(b), i != k)
			}
		}
	}
}

// P10.2: texts that are read as the same, and as others.
func TestSameOfParsed(t *testing.T) {
	for _, c := range []struct {
		a, b string
		want bool
	}{
		{"$(a)", "${a}", true},
		{"$(a)", "$a", true},
		{"$$", "$", true},
		{"$(strip  a)", "${strip\ta}", true},
		{"$(a:b=c)$(or x,y)", "${a:b=c}${or x,y}", true},
		{"$(a)", "$(b)", false},
		{"$(a)", "a", false},
		{"$(a)b", "b$(a)", false},
		{"$(a b)", "$(a  b)", false},
		{"$(or a,b)", "$(or a,b,)", false},
		{"$(or a,b)", "$(or a, b)", false},
		{"$(strip a)", "$(strips a)", false},
		{"", " ", false},
	} {
		a, aErr := Parse(c.a)
		b, bErr := Parse(c.b)
		if aErr != api.OK || bErr != api.OK {
			t.Errorf("%q: %d, %q: %d", c.a, aErr, c.b, bErr)
		}
		checkSame(t, c.a+" and "+c.b, a, b, c.want)
	}
}

// R3: nil and an empty list are one.
func TestSameOfEmptyLists(t *testing.T) {
	for kind := range 8 {
		a, b := api.Node{Kind: kind, S: "a"}, api.Node{Kind: kind, S: "a", L: []api.Node{}}
		checkSame(t, "empty lists", a, b, true)
		checkSame(t, "empty lists below", cat(a, refTo(b)), cat(b, refTo(a)), true)
		if Size(a) != 1 || Size(b) != 1 {
			t.Errorf("Size is %d, %d", Size(a), Size(b))
		}
	}
}

// chain is a text so many references deep.
func chain(deep int, s string) api.Node {
	n := text(s)
	for range deep {
		n = refTo(n)
	}
	return n
}

// doubled is a text that stands 2 to the so manieth times, each list twice in the one above it.
func doubled(times int, s string) api.Node {
	n := text(s)
	for range times {
		n = cat(n, n)
	}
	return n
}

// around is a list of so many nodes, each of which has all of the list below it; the last one says s.
func around(length int, s string) []api.Node {
	l := make([]api.Node, length)
	for i := range l {
		l[i] = api.Node{Kind: api.Cat, L: l}
	}
	l[length-1].S = s
	return l
}

// ring is a node that stands below itself, so many levels deep; the level asked for says s.
func ring(length, asked int, s string) api.Node {
	lists := make([][]api.Node, length)
	for i := range lists {
		lists[i] = make([]api.Node, 1)
	}
	for i := range lists {
		lists[i][0] = api.Node{Kind: api.Cat, L: lists[(i+1)%length]}
	}
	lists[asked][0].S = s
	return lists[0][0]
}

// P10.2 and R1: expansions deeper than calls can be nested.
func TestSameOfDeep(t *testing.T) {
	const deep = 4000000
	if !Same(chain(deep, "a"), chain(deep, "a")) {
		t.Error("not alike")
	}
	checkSame(t, "deep, another text", chain(deep/8, "a"), chain(deep/8, "b"), false)
	checkSame(t, "deep, less deep", chain(deep/8, "a"), chain(deep/8-1, "a"), false)
}

// P10.2 and R1: expansions in which lists stand many times, or below themselves.
func TestSameOfShared(t *testing.T) {
	for _, times := range []int{1, 10, 64, 1000} {
		a := doubled(times, "a")
		checkSame(t, "doubled", a, doubled(times, "a"), true)
		checkSame(t, "doubled, itself", a, a, true)
		checkSame(t, "doubled, another text", a, doubled(times, "b"), false)
		checkSame(t, "doubled, once less", a, doubled(times-1, "a"), false)
		checkSame(t, "doubled, the last one another", cat(a, a), cat(a, doubled(times, "b")), false)
	}
	checkSame(t, "below itself", ring(1, 0, ""), ring(1, 0, ""), true)
	checkSame(t, "below itself, by other ways", ring(7, 0, ""), ring(12, 0, ""), true)
	checkSame(t, "below itself, long ways", ring(4999, 0, ""), ring(5000, 0, ""), true)
	checkSame(t, "below itself, and not", ring(7, 0, ""), chain(20, ""), false)
	checkSame(t, "below itself, another text", ring(7, 0, ""), ring(7, 6, "a"), false)
	checkSame(t, "below itself, another place", ring(7, 5, "a"), ring(7, 6, "a"), false)
	checkSame(t, "below itself, another length", ring(7, 6, "a"), ring(14, 6, "a"), false)
	checkSame(t, "many below themselves", around(50, "a")[0], around(50, "a")[0], true)
	checkSame(t, "very many below themselves", around(300000, "a")[0], around(300000, "a")[0], true)
	checkSame(t, "many below themselves, another text", around(50, "a")[0], around(50, "b")[0], false)
}

// Lists that begin at one place, but are not as long, are not alike.
func TestSameOfOneBeginning(t *testing.T) {
	l := []api.Node{text("a"), text("b"), text("c")}
	checkSame(t, "shorter", cat(l...), api.Node{Kind: api.Cat, L: l[:2]}, false)
	checkSame(t, "shorter below", cat(cat(l...), text("")), cat(api.Node{Kind: api.Cat, L: l[:2]}, text("")), false)
	checkSame(t, "moved", api.Node{Kind: api.Cat, L: l[:2]}, api.Node{Kind: api.Cat, L: l[1:]}, false)
	checkSame(t, "a copy", cat(l...), cat(append([]api.Node{}, l...)...), true)
}

// The same where lists are remembered, behind very many nodes: what was held of their beginnings says nothing of them.
func TestSameOfOneBeginningRemembered(t *testing.T) {
	many := api.Node{Kind: api.Cat, L: make([]api.Node, 4*plainly)}
	of := func(l []api.Node) api.Node {
		return cat(many, api.Node{Kind: api.Cat, L: l[:2]}, api.Node{Kind: api.Cat, L: l})
	}
	a := of([]api.Node{text("a"), text("b"), text("c")})
	checkSame(t, "a copy", a, of([]api.Node{text("a"), text("b"), text("c")}), true)
	checkSame(t, "another end", a, of([]api.Node{text("a"), text("b"), text("d")}), false)
}

// P10.2
func TestSize(t *testing.T) {
	for _, c := range []struct {
		n    api.Node
		want int
	}{
		{api.Node{}, 1},
		{api.Node{Kind: 77, L: []api.Node{{}, {}}}, 3},
		{text(""), 1},
		{text("abc"), 1},
		{ref("a"), 2},
		{refTo(ref("a")), 3},
		{sub("a", "b", "c"), 4},
		{subOf(ref("a"), text("b"), text("c")), 5},
		{calls("or"), 1},
		{calls("or", "a"), 2},
		{calls("or", "a", "b", "c"), 4},
		{cat(text("a"), ref("b")), 4},
		{cat(text("a"), text("a")), 3},
		{cat(ref("a"), call("or", text("x"), sub("p", "q", "r"))), 9},
		{chain(100000, ""), 100001},
	} {
		if got := Size(c.n); got != c.want {
			t.Errorf("Size is %d, want %d", got, c.want)
		}
	}
}

// P10.2: Size ends at 1000000, on the node.
func TestSizeEnds(t *testing.T) {
	wide := func(n int) api.Node { return api.Node{Kind: api.Cat, L: make([]api.Node, n)} }
	for _, c := range []struct {
		name string
		n    api.Node
		want int
	}{
		{"wide, one less", wide(999998), 999999},
		{"wide, as many", wide(999999), 1000000},
		{"wide, one more", wide(1000000), 1000000},
		{"wide, far more", wide(3000000), 1000000},
		{"deep, one less", chain(999998, ""), 999999},
		{"deep, as many", chain(999999, ""), 1000000},
		{"deep, one more", chain(1000000, ""), 1000000},
		{"deep, far more", chain(3000000, ""), 1000000},
		{"two wide, one less", cat(wide(400000), wide(599996)), 999999},
		{"two wide, as many", cat(wide(400000), wide(599997)), 1000000},
		{"two wide, one more", cat(wide(400000), wide(599998)), 1000000},
		{"wide, and deep behind it", cat(wide(999996), ref("")), 1000000},
		{"doubled, less", doubled(18, ""), 1<<19 - 1},
		{"doubled, more", doubled(19, ""), 1000000},
		{"doubled, far more", doubled(64, ""), 1000000},
		{"doubled, very far more", doubled(10000, ""), 1000000},
		{"below itself", ring(1, 0, ""), 1000000},
		{"many below themselves", around(1000, "")[0], 1000000},
	} {
		if got := Size(c.n); got != c.want {
			t.Errorf("%s: Size is %d, want %d", c.name, got, c.want)
		}
	}
}

// P10.2: Size of what was read.
func TestSizeOfParsed(t *testing.T) {
	for s, want := range map[string]int{"": 1, "a": 1, "$a": 2, "$(a)b": 4, "$(a:b=c)": 4, "$(strip a)": 2, "$(or a,b,c)": 4, "$(a$(b))": 5, "x$(if $(a),b$c)": 9} {
		n, err := Parse(s)
		if got := Size(n); err != api.OK || got != want {
			t.Errorf("Size of %q is %d, want %d", s, got, want)
		}
	}
}

// R3: Same and Size change nothing.
func TestHandedInStays(t *testing.T) {
	for _, n := range others() {
		before := show(n)
		Same(n, others()[0])
		Same(others()[20], n)
		Same(n, n)
		Size(n)
		if after := show(n); after != before {
			t.Errorf("%s has become %s", before, after)
		}
	}
}
