package print

import (
	"reflect"
	"strconv"
	"strings"
	"testing"

	"wainwright/api"
	"wainwright/syntax"
)

func text(s string) api.Node { return api.Node{Kind: api.Text, S: s} }

func catOf(l ...api.Node) api.Node { return api.Node{Kind: api.Cat, L: l} }

func callOf(name string, l ...api.Node) api.Node { return api.Node{Kind: api.Call, S: name, L: l} }

func refTo(n api.Node) api.Node { return api.Node{Kind: api.Ref, L: []api.Node{n}} }

func subOf(name, from, to api.Node) api.Node {
	return api.Node{Kind: api.Sub, L: []api.Node{name, from, to}}
}

func refs(name string) api.Node { return refTo(text(name)) }

func subs(name, from, to string) api.Node { return subOf(text(name), text(from), text(to)) }

func calls(name string, args ...string) api.Node {
	n := callOf(name)
	for _, s := range args {
		n.L = append(n.L, text(s))
	}
	return n
}

// show is an expansion for a test's message.
func show(n api.Node) string {
	s := strconv.Itoa(n.Kind) + strconv.Quote(n.S)
	if len(n.L) == 0 {
		return s
	}
	var l []string
	for _, below := range n.L {
		l = append(l, show(below))
	}
	return s + "(" + strings.Join(l, ", ") + ")"
}

// checkPrint holds what is printed against a text, and reads it again.
func checkPrint(t *testing.T, n api.Node, want string) {
	t.Helper()
	got, ok := Print(n)
	if got != want || !ok {
		t.Errorf("Print(%.200s) = %.200q, %v, want %.200q", show(n), got, ok, want)
		return
	}
	back, err := syntax.Parse(got)
	if err != api.OK || !syntax.Same(back, n) {
		t.Errorf("Print(%.200s) = %.200q, which is read as %.200s, %d", show(n), got, show(back), err)
	}
}

// checkNone asks that there is no text.
func checkNone(t *testing.T, name string, n api.Node) {
	t.Helper()
	if got, ok := Print(n); got != "" || ok {
		t.Errorf("%s: %.200q, %v, want none", name, got, ok)
	}
}

type printCase struct {
	n    api.Node
	want string
}

func checkCases(t *testing.T, cases []printCase) {
	t.Helper()
	for _, c := range cases {
		checkPrint(t, c.n, c.want)
	}
}

// P11.1: the text of each kind, byte by byte.
func TestKinds(t *testing.T) {
	checkCases(t, []printCase{
		{text("a"), "a"},
		{refs("a"), "$(a)"},
		{subs("a", "b", "c"), "$(a:b=c)"},
		{calls("strip", "a"), "$(strip a)"},
		{calls("join", "a", "b"), "$(join a,b)"},
		{calls("subst", "a", "b", "c"), "$(subst a,b,c)"},
		{calls("or", "a", "b", "c", "d"), "$(or a,b,c,d)"},
		{catOf(refs("a"), refs("b")), "$(a)$(b)"},
		{catOf(text("a"), refs("b"), text("c")), "a$(b)c"},
		{refs(""), "$()"},
		{subs("", "", ""), "$(:=)"},
		{calls("strip", ""), "$(strip )"},
		{calls("or", "", "", ""), "$(or ,,)"},
		{catOf(refs(""), refs("")), "$()$()"},
		{refs("$"), "$($$)"},
		{subs("$a", "b$", "$$"), "$($$a:b$$=$$$$)"},
		{calls("or", "$a", "b$", "$", ""), "$(or $$a,b$$,$$,)"},
		{catOf(text("$"), refs("a"), text("$$")), "$$$(a)$$$$"},
	})
}

// P11.1: a Text is its bytes, each $ twice.
func TestTexts(t *testing.T) {
	checkCases(t, []printCase{
		{text(""), ""},
		{api.Node{Kind: api.Text, S: "a", L: []api.Node{}}, "a"},
		{text("$"), "$$"},
		{text("$$"), "$$$$"},
		{text("$$$"), "$$$$$$"},
		{text("a$b$"), "a$$b$$"},
		{text("$a"), "$$a"},
		{text("$(a)"), "$$(a)"},
		{text("${a}"), "$${a}"},
		{text("$("), "$$("},
		{text("("), "("},
		{text(")"), ")"},
		{text("){}("), "){}("},
		{text("a,b:c=d"), "a,b:c=d"},
		{text("if a,b"), "if a,b"},
		{text(" "), " "},
		{text(" a\tb\n"), " a\tb\n"},
		{text("\x00\xff\u20ac\uff04"), "\x00\xff\u20ac\uff04"},
		{text(strings.Repeat("$", 1<<16)), strings.Repeat("$", 1<<17)},
		{text(strings.Repeat("(", 1<<16)), strings.Repeat("(", 1<<16)},
	})
	for i := range 256 {
		b := string([]byte{byte(i)})
		want := strings.ReplaceAll(b, "$", "$$")
		checkPrint(t, text(b), want)
		checkPrint(t, text("a"+b+b), "a"+want+want)
	}
}

// inner is an expansion of each kind, with its text.
func inner() []printCase {
	return []printCase{
		{text(""), ""},
		{text("x"), "x"},
		{text("$"), "$$"},
		{refs("x"), "$(x)"},
		{subs("x", "y", "z"), "$(x:y=z)"},
		{calls("or", "x", "y"), "$(or x,y)"},
		{calls("if", "x", "y"), "$(if x,y)"},
		{catOf(text("x"), refs("y")), "x$(y)"},
		{catOf(refs("x"), text("y")), "$(x)y"},
		{catOf(subs("x", "y", "z"), text("$"), calls("and", "p", "q")), "$(x:y=z)$$$(and p,q)"},
	}
}

// outer is a text around another one, and the expansion around that one's.
type outer struct {
	ahead, behind string
	of            func(api.Node) api.Node
}

// references is each place in which one thing stands below another one.
func references() []outer {
	return []outer{
		{"$(", ")", refTo},
		{"$(", ":b=c)", func(n api.Node) api.Node { return subOf(n, text("b"), text("c")) }},
		{"$(a:", "=c)", func(n api.Node) api.Node { return subOf(text("a"), n, text("c")) }},
		{"$(a:b=", ")", func(n api.Node) api.Node { return subOf(text("a"), text("b"), n) }},
		{"$(strip ", ")", func(n api.Node) api.Node { return callOf("strip", n) }},
		{"$(or ", ",b)", func(n api.Node) api.Node { return callOf("or", n, text("b")) }},
		{"$(or a,", ",c)", func(n api.Node) api.Node { return callOf("or", text("a"), n, text("c")) }},
		{"$(or a,", ")", func(n api.Node) api.Node { return callOf("or", text("a"), n) }},
		{"$(if a,b,", ")", func(n api.Node) api.Node { return callOf("if", text("a"), text("b"), n) }},
	}
}

// P11.1: each kind within each other kind.
func TestWithin(t *testing.T) {
	for _, in := range inner() {
		for _, out := range references() {
			n, want := out.of(in.n), out.ahead+in.want+out.behind
			checkPrint(t, n, want)
			checkPrint(t, catOf(n, refs("r")), want+"$(r)")
			checkPrint(t, catOf(text("$s"), n, text("t")), "$$s"+want+"t")
			for _, more := range references() {
				checkPrint(t, more.of(n), more.ahead+want+more.behind)
				checkPrint(t, more.of(catOf(n, text("u"), n)), more.ahead+want+"u"+want+more.behind)
			}
		}
	}
}

// P11.1: references of any kind side by side.
func TestSideBySide(t *testing.T) {
	for _, a := range references() {
		for _, b := range references() {
			for _, c := range references() {
				n := catOf(a.of(text("x")), b.of(text("y")), c.of(text("z")))
				checkPrint(t, n, a.ahead+"x"+a.behind+b.ahead+"y"+b.behind+c.ahead+"z"+c.behind)
			}
		}
	}
}

// R3: what is handed in stays; nil and an empty list are one.
func TestHandedInStays(t *testing.T) {
	empty := []api.Node{}
	for _, out := range references() {
		for _, in := range inner() {
			n := out.of(in.n)
			before := show(n)
			Print(n)
			if after := show(n); after != before {
				t.Errorf("%s has become %s", before, after)
			}
		}
		n := out.of(api.Node{Kind: api.Text, S: "x", L: empty})
		checkPrint(t, n, out.ahead+"x"+out.behind)
	}
	for kind := range 8 {
		a, aOK := Print(api.Node{Kind: kind, S: "a"})
		b, bOK := Print(api.Node{Kind: kind, S: "a", L: empty})
		if a != b || aOK != bOK {
			t.Errorf("kind %d: %q, %v without a list, %q, %v with an empty one", kind, a, aOK, b, bOK)
		}
	}
}

// R3 and R4: what becomes of a node behind a call changes no answer, neither an earlier nor a later one.
func TestAnswersStayApart(t *testing.T) {
	made := func() api.Node {
		return catOf(text("a$"), subOf(text("b"), refs("c"), text("d")), callOf("or", text("e"), refs("f")))
	}
	const want = "a$$$(b:$(c)=d)$(or e,$(f))"
	n := made()
	kept, ok := Print(n)
	n.L[0].S = "spoilt"
	n.L[1].L[0] = refs("spoilt")
	checkPrint(t, n, "spoilt$($(spoilt):$(c)=d)$(or e,$(f))")
	checkPrint(t, made(), want)
	if kept != want || !ok {
		t.Errorf("an answer has become %q, %v", kept, ok)
	}
	if !reflect.DeepEqual(made().L[2], n.L[2]) {
		t.Errorf("a node has become %s", show(n.L[2]))
	}
}
