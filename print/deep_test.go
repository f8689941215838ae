package print

import (
	"strings"
	"testing"

	"wainwright/api"
)

// within is a node so many times within a reference, or within several by turns.
func within(times int, n api.Node, of ...func(api.Node) api.Node) api.Node {
	for i := range times {
		n = of[i%len(of)](n)
	}
	return n
}

func nested(times int, ahead, within, behind string) string {
	return strings.Repeat(ahead, times) + within + strings.Repeat(behind, times)
}

// inCat is a Cat that has a node.
func inCat(of func(api.Node) api.Node) func(api.Node) api.Node {
	return func(n api.Node) api.Node { return of(catOf(text("s"), n, text("t"))) }
}

// P11.1: MaxNest references within one another are printed, one more is not.
func TestDeepest(t *testing.T) {
	for _, out := range references() {
		n, want := within(api.MaxNest, text("x"), out.of), nested(api.MaxNest, out.ahead, "x", out.behind)
		checkPrint(t, n, want)
		checkPrint(t, catOf(n, text("y"), n), want+"y"+want)
		checkNone(t, "one more "+out.ahead+out.behind, out.of(n))
		checkNone(t, "one more in a Cat "+out.ahead+out.behind, catOf(text("y"), out.of(n)))
		checkNone(t, "one more about a name "+out.ahead+out.behind, within(api.MaxNest, refs("x"), out.of))
		for _, in := range references() {
			checkNone(t, "one more "+in.ahead+out.ahead+out.behind+in.behind, in.of(n))
		}
	}
}

// P11.1: the same with a Cat in each of the references, and around all.
func TestDeepestCats(t *testing.T) {
	for _, out := range references() {
		n := within(api.MaxNest, text("x"), out.of)
		checkPrint(t, catOf(text("a"), n), "a"+nested(api.MaxNest, out.ahead, "x", out.behind))
		n = within(api.MaxNest-1, refs("x"), inCat(out.of))
		want := nested(api.MaxNest-1, out.ahead+"s", "$(x)", "t"+out.behind)
		checkPrint(t, n, want)
		checkPrint(t, catOf(refs("a"), n), "$(a)"+want)
		checkNone(t, "one more "+out.ahead+out.behind, out.of(n))
		checkNone(t, "one more in a Cat "+out.ahead+out.behind, inCat(out.of)(n))
	}
	deepest := within(api.MaxNest, text("x"), refTo)
	n := within(api.MaxNest-2, refTo(catOf(refs("x"), refs("y"))), inCat(refTo))
	checkPrint(t, catOf(n, deepest), nested(api.MaxNest-2, "$(s", "$($(x)$(y))", "t)")+nested(api.MaxNest, "$(", "x", ")"))
}

// P11.1: what is not too deep in one place may be so in another one.
func TestSharedAtOtherDepths(t *testing.T) {
	x := within(30, text("x"), refTo)
	want := nested(30, "$(", "x", ")")
	checkPrint(t, callOf("or", x, within(9, x, refTo)), "$(or "+want+","+nested(9, "$(", want, ")")+")")
	checkPrint(t, callOf("or", within(9, x, refTo), x), "$(or "+nested(9, "$(", want, ")")+","+want+")")
	checkNone(t, "once shallow, then too deep", callOf("or", x, within(10, x, refTo)))
	checkNone(t, "too deep, then shallow", callOf("or", within(10, x, refTo), x))
	checkNone(t, "once shallow, then far too deep", callOf("or", x, within(1000, x, refTo)))
	all := []api.Node{refs("x")}
	for range 2000 {
		all = append(all, within(api.MaxNest-2, all[len(all)-1], refTo))
	}
	checkNone(t, "each within the next one", callOf("or", all...))
}

// P11.1: lists that begin at one place, but are not as long, are not one.
func TestListsOfOneBeginning(t *testing.T) {
	l := []api.Node{text("a"), refs("b"), text("c"), refs("d")}
	some := func(kind int, s string, from, to int) api.Node { return api.Node{Kind: kind, S: s, L: l[from:to]} }
	checkPrint(t, callOf("or", some(api.Cat, "", 0, 2), some(api.Cat, "", 0, 3), some(api.Cat, "", 0, 4)), "$(or a$(b),a$(b)c,a$(b)c$(d))")
	checkPrint(t, callOf("or", some(api.Cat, "", 0, 4), some(api.Cat, "", 0, 2), some(api.Cat, "", 1, 3)), "$(or a$(b)c$(d),a$(b),$(b)c)")
	checkPrint(t, catOf(some(api.Ref, "", 0, 1), some(api.Sub, "", 0, 3), some(api.Call, "or", 0, 3), some(api.Call, "subst", 0, 3), some(api.Call, "strip", 0, 1)), "$(a)$(a:$(b)=c)$(or a,$(b),c)$(subst a,$(b),c)$(strip a)")
	var many, ends []api.Node
	var want strings.Builder
	for range 300 {
		many = append(many, refs("a"))
	}
	for i := range many {
		ends = append(ends, api.Node{Kind: api.Call, S: "or", L: many[i:]})
		want.WriteString("$(or $(a)" + strings.Repeat(",$(a)", len(many)-i-1) + ")")
	}
	checkPrint(t, catOf(ends...), want.String())
	checkNone(t, "a Ref of as many as a Sub", catOf(some(api.Sub, "", 0, 3), some(api.Ref, "", 0, 3)))
	checkNone(t, "a Sub of as many as a Ref", catOf(some(api.Ref, "", 0, 1), some(api.Sub, "", 0, 1)))
	checkNone(t, "a Text of as many as a Call", catOf(some(api.Call, "or", 0, 2), some(api.Text, "a", 0, 2)))
}

// P11.1 and R1: nodes deeper than calls can be nested.
func TestVeryDeep(t *testing.T) {
	const deep = 2000000
	for _, out := range references() {
		checkNone(t, "very deep "+out.ahead+out.behind, within(deep/8, text("x"), out.of))
	}
	one := func(n api.Node) api.Node { return catOf(n) }
	two := func(n api.Node) api.Node { return catOf(text(""), n) }
	below := func(n api.Node) api.Node { return api.Node{Kind: api.Text, S: "a", L: []api.Node{n}} }
	checkNone(t, "very deep Refs", within(deep, text("x"), refTo))
	checkNone(t, "very deep Cats of one", within(deep, text("x"), one))
	checkNone(t, "very deep Cats", within(deep, text("x"), two))
	checkNone(t, "very deep Cats in Refs", within(deep, text("x"), inCat(refTo)))
	checkNone(t, "very deep Texts", within(deep, text("x"), below))
	checkNone(t, "very deep, of no kind", within(deep, text("x"), func(n api.Node) api.Node { return api.Node{L: []api.Node{n}} }))
	checkNone(t, "very deep, behind what is printed", callOf("or", text("a"), refs("b"), within(deep, text("x"), refTo)))
}

// below is a node of a kind with so many below it, one of which is itself; the others are Refs.
func below(kind int, s string, number, itself int) api.Node {
	l := make([]api.Node, number)
	for i := range l {
		l[i] = refs("a")
	}
	l[itself] = api.Node{Kind: kind, S: s, L: l}
	return l[itself]
}

// P11.1 and R1: nodes below themselves.
func TestBelowThemselves(t *testing.T) {
	for kind := range 8 {
		for number := 1; number < 6; number++ {
			for itself := range number {
				checkNone(t, "below itself", below(kind, "", number, itself))
				checkNone(t, "below itself, with a name", below(kind, "or", number, itself))
				checkNone(t, "below itself, in a Call", callOf("or", refs("a"), below(kind, "", number, itself)))
			}
		}
	}
	for _, kind := range []int{api.Text, api.Ref, api.Sub, api.Call, api.Cat} {
		l := make([]api.Node, 100000)
		for i := range l {
			l[i] = api.Node{Kind: kind, S: "or", L: l}
		}
		checkNone(t, "very many below themselves", l[0])
		for i := range l {
			l[i].S = ""
			l[i].L = l[i%7 : i%7+1+kind%4]
		}
		checkNone(t, "very many below some of them", l[0])
		checkNone(t, "many below themselves, behind what is printed", callOf("or", refs("a"), l[0]))
	}
}

// P11.1 and R1: nodes below each other.
func TestBelowEachOther(t *testing.T) {
	a, b := make([]api.Node, 1), make([]api.Node, 2)
	a[0] = api.Node{Kind: api.Cat, L: b}
	b[0], b[1] = text("x"), api.Node{Kind: api.Ref, L: a}
	checkNone(t, "a Cat below a Ref below it", a[0])
	checkNone(t, "a Ref below a Cat below it", b[1])
	checkNone(t, "a Ref below a Cat below it, in a Sub", subOf(refs("y"), b[1], text("")))
}

// doubled is a node that stands 2 to the so manieth times.
func doubled(times int, n api.Node, of func(a, b api.Node) api.Node) api.Node {
	for range times {
		n = of(n, n)
	}
	return n
}

// P11.1 and R1: a few lists that ask for more text than there may be.
func TestDoubled(t *testing.T) {
	or := func(a, b api.Node) api.Node { return callOf("or", a, b) }
	cats := func(a, b api.Node) api.Node { return catOf(a, b) }
	want := "x"
	for times := range 13 {
		checkPrint(t, doubled(times, text("x"), or), want)
		want = "$(or " + want + "," + want + ")"
	}
	for _, times := range []int{30, api.MaxNest - 1, api.MaxNest, api.MaxNest + 1, 64, 1000, 100000} {
		for _, s := range []string{"", "x", "$", strings.Repeat("$", 1000)} {
			checkNone(t, "doubled Calls", doubled(times, text(s), or))
			checkNone(t, "doubled Cats", doubled(times, text(s), cats))
			checkNone(t, "doubled Cats of Refs", doubled(times, refs(s), cats))
			checkNone(t, "doubled Subs", doubled(times, text(s), func(a, b api.Node) api.Node { return subOf(a, b, a) }))
			checkNone(t, "doubled Cats in Refs", doubled(times, refs(s), func(a, b api.Node) api.Node { return refTo(catOf(a, text("s"), b)) }))
		}
	}
}

// P11.1 and R1: the same of very long lists.
func TestGreatLists(t *testing.T) {
	const many = 300000
	l := make([]api.Node, many)
	for i := range l {
		l[i] = text("")
	}
	cats := make([]api.Node, many)
	for i := range cats {
		cats[i] = api.Node{Kind: api.Cat, L: l}
	}
	checkNone(t, "very many Texts without bytes", callOf("or", cats...))
	checkNone(t, "very many Texts without bytes, in a Cat", catOf(cats...))
	for i := range cats {
		cats[i] = api.Node{Kind: api.Call, S: "or", L: l}
	}
	checkNone(t, "very many arguments without bytes", catOf(cats...))
	great := text(strings.Repeat("$", 1<<16))
	for i := range l {
		l[i] = great
	}
	checkNone(t, "very many great Texts", callOf("or", l...))
	checkNone(t, "a great list of a great list", catOf(refs("a"), callOf("or", api.Node{Kind: api.Call, S: "and", L: l}, text("x"))))
	for i := range l {
		l[i] = api.Node{Kind: api.Call, S: "or", L: l[i+1:]}
	}
	checkNone(t, "all ends of a list in one another", l[0])
}

// P11.1 and R1: very many side by side.
func TestWide(t *testing.T) {
	const many = 100000
	var row, args, names []api.Node
	for range many {
		row = append(row, refs("a"), text("$b"))
		args = append(args, text(""), subs("c", "d", "e"))
		names = append(names, refs(""))
	}
	checkPrint(t, catOf(row...), strings.Repeat("$(a)$$b", many))
	checkPrint(t, callOf("or", args...), "$(or "+strings.Repeat(",$(c:d=e),", many)[:many*10-1]+")")
	checkPrint(t, refTo(catOf(names...)), "$("+strings.Repeat("$()", many)+")")
	checkNone(t, "very many, and one more Text", catOf(append(row, text("c"))...))
	checkNone(t, "very many, and a Text without bytes", catOf(append(names, text(""))...))
	checkNone(t, "very many Texts", catOf(make([]api.Node, many)...))
	checkNone(t, "too many arguments", callOf("if", args...))
	checkNone(t, "very many below a Ref", api.Node{Kind: api.Ref, L: names})
	checkNone(t, "very many below a Sub", api.Node{Kind: api.Sub, L: names})
	checkNone(t, "very many below a Text", api.Node{Kind: api.Text, L: names})
}
