package print

import (
	"math/rand"
	"reflect"
	"strings"
	"testing"

	"wainwright/api"
	"wainwright/syntax"
	"wainwright/table"
)

// slowText is the text that P11.1 names for a node, word by word, if it names one.
func slowText(n api.Node) (string, bool) {
	var l []string
	for _, below := range n.L {
		s, ok := slowText(below)
		if !ok {
			return "", false
		}
		l = append(l, s)
	}
	switch {
	case n.Kind == api.Text:
		return strings.Join(strings.Split(n.S, "$"), "$$"), true
	case n.Kind == api.Ref && len(l) == 1:
		return "$(" + l[0] + ")", true
	case n.Kind == api.Sub && len(l) == 3:
		return "$(" + l[0] + ":" + l[1] + "=" + l[2] + ")", true
	case n.Kind == api.Call:
		return "$(" + n.S + " " + strings.Join(l, ",") + ")", true
	case n.Kind == api.Cat:
		return strings.Join(l, ""), true
	}
	return "", false
}

// alike tells whether two nodes are so, place by place; nil and an empty list are one.
func alike(a, b api.Node) bool {
	if a.Kind != b.Kind || a.S != b.S || len(a.L) != len(b.L) {
		return false
	}
	for i := range a.L {
		if !alike(a.L[i], b.L[i]) {
			return false
		}
	}
	return true
}

// checkSlow holds what is printed against the text that P11.1 names, if that is read as the node; it tells whether it is.
func checkSlow(t *testing.T, n api.Node) bool {
	t.Helper()
	want, wantOK := slowText(n)
	if back, err := syntax.Parse(want); !wantOK || err != api.OK || !alike(back, n) {
		want, wantOK = "", false
	}
	if got, ok := Print(n); got != want || ok != wantOK {
		t.Fatalf("Print(%s) = %q, %v, want %q, %v", show(n), got, ok, want, wantOK)
	}
	return wantOK
}

// allTexts calls see with every text of at most most of the pieces.
func allTexts(pieces []string, most int, see func(string)) {
	var grow func(s string, left int)
	grow = func(s string, left int) {
		see(s)
		if left == 0 {
			return
		}
		for _, p := range pieces {
			grow(s+p, left-1)
		}
	}
	grow("", most)
}

// madeTexts calls see with so many texts made of the pieces; they are the same each time.
func madeTexts(pieces []string, number int, see func(string)) {
	r := rand.New(rand.NewSource(11))
	for range number {
		var s strings.Builder
		for range r.Intn(60) {
			s.WriteString(pieces[r.Intn(len(pieces))])
		}
		see(s.String())
	}
}

// longer is pieces of longer texts, most of which have no errors.
func longer() []string {
	return append(strings.Fields("$( $( $( ${ ) ) ) } } ( { $ $$ , : = a b $a :%=% $(a) $(a:b=c) ${a}"), " ", "strip ", "$(or ", "$(if\t", "${subst\n", "$(call  ")
}

// P11.2: what Parse answers for all short texts is printed as P11.1 says, and read as itself.
func TestShortTexts(t *testing.T) {
	pieces := []string{"$", "(", ")", "{", "}", ",", ":", "=", "or ", "a"}
	printed := 0
	see := func(s string) {
		if n, err := syntax.Parse(s); err == api.OK && checkSlow(t, n) {
			printed++
		}
	}
	allTexts(pieces, 4, func(s string) {
		see(s)
		see("$(" + s + ")")
		see("${if " + s + "}")
		see("$($(" + s + "):b=c)")
	})
	if printed < 10000 {
		t.Errorf("of the texts just %d are printed", printed)
	}
}

// P11.2: the same for many longer texts.
func TestMadeTexts(t *testing.T) {
	printed := 0
	madeTexts(longer(), 100000, func(s string) {
		if n, err := syntax.Parse(s); err == api.OK && checkSlow(t, n) {
			printed++
		}
	})
	if printed < 5000 {
		t.Errorf("of the texts just %d are printed", printed)
	}
}

// P11.2: a text whose references stand in ( and ) alone is always printed: as itself, but for blanks ahead of arguments.
func TestRoundBrackets(t *testing.T) {
	see := func(s string) {
		n, err := syntax.Parse(s)
		if err != api.OK {
			return
		}
		want := strings.NewReplacer("or  ", "or ", "or \t", "or ", "or\t", "or ").Replace(s)
		if got, ok := Print(n); got != want || !ok {
			t.Fatalf("%q is printed as %q, %v, want %q", s, got, ok, want)
		}
	}
	allTexts([]string{"$(", "(", ")", "$$", "{", "}", ",", ":", "=", "a"}, 5, see)
	allTexts([]string{"$(", "$(or \t", "$(or\t", ")", "$$", ",", "a"}, 6, see)
	allTexts([]string{"$(or (", "$(a:", "$(b", ")", "=", "{", "}", ","}, 6, see)
}

// P11.2: texts that are read as the same are printed as one.
func TestOneTextEach(t *testing.T) {
	for s, want := range map[string]string{
		"$a": "$(a)", "${a}": "$(a)", "$(a)": "$(a)", "$": "$$", "a$": "a$$", "$$$": "$$$$", "${a:b=c}": "$(a:b=c)", "${or a,b}": "$(or a,b)",
		"$(or  a, b)": "$(or a, b)", "$(or\ta)": "$(or a)", "$(or\n\n a)": "$(or a)", "$(or \n)": "$(or )", "$(a$)": "$(a$$)", "$(a$:b$=c$)": "$(a$$:b$$=c$$)",
		"$(or $,$)": "$(or $$,$$)", "$ $,$:": "$( )$(,)$(:)", "$(if $a,$b,$c,$d)": "$(if $(a),$(b),$(c),$(d))", "${a(b)}": "$(a(b))", "$(a$))": "$(a$$))", "$(a$()b)": "$(a$()b)",
		"$(foreach x,$l,<$x>)": "$(foreach x,$(l),<$(x)>)", "${a}${b}$$c": "$(a)$(b)$$c", "$(${a}:$b=${c})": "$($(a):$(b)=$(c))",
	} {
		n, err := syntax.Parse(s)
		if err != api.OK {
			t.Errorf("%q: error %d", s, err)
		}
		checkPrint(t, n, want)
	}
}

// P11.1: what stands in { and }, or without brackets, and can't stand in ( and ), has no text.
func TestOtherBrackets(t *testing.T) {
	for _, s := range []string{"${a(}", "${a)}", "${(}", "$)", "a$)b", "${or {,}}", "${or {,},a}", "${or (,)}", "${or a),b}", "${or (}", "${a):b=c}", "${a${(}}", "${$)}"} {
		n, err := syntax.Parse(s)
		if err != api.OK {
			t.Errorf("%q: error %d", s, err)
		}
		checkNone(t, s, n)
	}
}

// P11.2: what only a name of a byte lets be deep enough.
func TestNameOfByteAtTheDeepest(t *testing.T) {
	n, err := syntax.Parse(nested(api.MaxNest, "$(", "$x", ")"))
	if err != api.OK {
		t.Fatal(err)
	}
	checkNone(t, "a Ref deeper than MaxNest", n)
	n, err = syntax.Parse(nested(api.MaxNest-1, "$(", "$x", ")"))
	if err != api.OK {
		t.Fatal(err)
	}
	checkPrint(t, n, nested(api.MaxNest, "$(", "x", ")"))
}

// small is all nodes of one level more, of texts and others that stand below.
func small(l []api.Node) []api.Node {
	var all []api.Node
	for _, a := range l {
		all = append(all, refTo(a), catOf(a), callOf("strip", a), callOf("hop", a), callOf("if", a), subOf(a, text("b"), text("c")), subOf(text("a"), a, text("c")), subOf(text("a"), text("b"), a))
		for _, b := range l {
			all = append(all, catOf(a, b), callOf("or", a, b), callOf("if", a, b), callOf("if", text("a"), a, b), callOf("strip", a, b), subOf(a, b, text("")))
		}
	}
	return all
}

// P11.1 and P11.2: over all small nodes.
func TestSmallNodes(t *testing.T) {
	texts := []api.Node{{}, refs("a"), refs("}:"), refs("{"), subs("a", "b", "c"), calls("or", "x", "y")}
	for _, s := range []string{"", "a", " ", "$", "(", ")", "{", "}", ",", ":", "=", "a:b=c", "or ", "(,:=)", "a b"} {
		texts = append(texts, text(s))
	}
	printed := 0
	for _, n := range append(texts, small(texts)...) {
		for _, more := range append(small([]api.Node{n}), n, catOf(n, refs("z")), catOf(text("z"), n), callOf("or", n, text(",")), refTo(catOf(n, text(":b=c")))) {
			if checkSlow(t, more) {
				printed++
			}
		}
	}
	if printed < 5000 {
		t.Errorf("of the nodes just %d are printed", printed)
	}
}

// maker makes nodes; what r says tells which ones.
type maker struct {
	r            *rand.Rand
	names, texts []string
}

// node is a node of at most so many levels more.
func (m maker) node(levels int) api.Node {
	if levels == 0 || m.r.Intn(4) == 0 {
		return text(m.texts[m.r.Intn(len(m.texts))])
	}
	n := api.Node{Kind: []int{0, api.Text, api.Ref, api.Ref, api.Sub, api.Sub, api.Call, api.Call, api.Cat, api.Cat}[m.r.Intn(10)]}
	count := []int{1, 0, 1, 3, 2, 2}[n.Kind]
	if n.Kind == api.Call {
		n.S = m.names[m.r.Intn(len(m.names))]
	}
	if n.Kind == api.Call || m.r.Intn(20) == 0 {
		count = m.r.Intn(5)
	}
	for range count {
		n.L = append(n.L, m.node(levels-1))
	}
	return n
}

// P11.1 and P11.2: over many made nodes.
func TestMadeNodes(t *testing.T) {
	m := maker{rand.New(rand.NewSource(12)), append(table.Names(), "", "a", "or ", "or a,"), append(longer(), "", "", "a", "b", "a(b)", "(,)")}
	printed := 0
	for range 100000 {
		if checkSlow(t, m.node(m.r.Intn(5))) {
			printed++
		}
	}
	if printed < 10000 {
		t.Errorf("of the nodes just %d are printed", printed)
	}
}

// P11.2: what is printed, read and printed again is the same, and so is what is read of it.
func TestPrintedAgain(t *testing.T) {
	madeTexts(longer(), 50000, func(s string) {
		n, err := syntax.Parse(s)
		if err != api.OK {
			return
		}
		first, ok := Print(n)
		if !ok {
			return
		}
		back, err := syntax.Parse(first)
		if err != api.OK || !reflect.DeepEqual(back, n) {
			t.Fatalf("%q is printed as %q, and read as %s, %d", s, first, show(back), err)
		}
		if again, ok := Print(back); again != first || !ok {
			t.Fatalf("%q is printed as %q, and then as %q, %v", s, first, again, ok)
		}
	})
}
