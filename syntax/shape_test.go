package syntax

import (
	"math/rand"
	"reflect"
	"slices"
	"strings"
	"testing"

	"wainwright/api"
)

// wellFormed tells what an expansion has that P10.2 rules out, or nothing.
func wellFormed(n api.Node) string {
	wrong := wrongHere(n)
	for _, below := range n.L {
		if wrong == "" {
			wrong = wellFormed(below)
		}
	}
	return wrong
}

func wrongHere(n api.Node) string {
	switch {
	case n.Kind < api.Text || n.Kind > api.Cat:
		return "a kind that there is not"
	case n.Kind != api.Text && n.Kind != api.Call && n.S != "":
		return "a text where there is none"
	case n.Kind == api.Text && len(n.L) != 0:
		return "something below a Text"
	case n.Kind == api.Ref && len(n.L) != 1:
		return "a Ref of another number than one"
	case n.Kind == api.Sub && len(n.L) != 3:
		return "a Sub of another number than three"
	case n.Kind == api.Call && (n.S == "" || len(n.L) == 0):
		return "a Call of nothing"
	case n.Kind == api.Cat:
		return wrongRow(n.L)
	}
	return ""
}

func wrongRow(l []api.Node) string {
	if len(l) < 2 {
		return "a Cat of less than two"
	}
	for i, n := range l {
		switch {
		case n.Kind == api.Cat:
			return "a Cat right within a Cat"
		case n.Kind == api.Text && n.S == "":
			return "a Text without bytes in a Cat"
		case n.Kind == api.Text && i > 0 && l[i-1].Kind == api.Text:
			return "two Texts side by side"
		}
	}
	return ""
}

// pieces is what texts with references are made of.
func pieces() []string {
	return []string{"$", "(", ")", "{", "}", ",", ":", "=", "if ", "a"}
}

// allTexts calls see with every text of at most most of the pieces.
func allTexts(pieces []string, most int, see func(string)) {
	var grow func(s string, left int)
	grow = func(s string, left int) {
		see(s)
		if left == 0 {
			return
		}
		for _, p := range pieces {
			grow(s+p, left-1)
		}
	}
	grow("", most)
}

// madeTexts calls see with so many texts made of longer pieces; they are the same each time.
func madeTexts(number int, see func(string)) {
	r := rand.New(rand.NewSource(10))
	more := append(pieces(), "$(", "${", "$(", "${", ")", "}", ")", "}", "$$", "strip ", "$(or\t", "${subst ", "$(call\n", "intcmp ", ":%=%", ",", " ", "b")
	for range number {
		var s strings.Builder
		for range r.Intn(60) {
			s.WriteString(more[r.Intn(len(more))])
		}
		see(s.String())
	}
}

// checkSlow holds Parse against the slow reading of the same text; it tells whether that is without an error.
func checkSlow(t *testing.T, s string) bool {
	want, wantErr := slowParse(s)
	n, err := Parse(s)
	if err != wantErr || !reflect.DeepEqual(n, want) {
		t.Fatalf("Parse(%q) = %s, %d, want %s, %d", s, show(n), err, show(want), wantErr)
	}
	if err != api.OK {
		return false
	}
	if wrong := wellFormed(n); wrong != "" {
		t.Fatalf("Parse(%q) = %s: %s", s, show(n), wrong)
	}
	if !Same(n, want) || Size(n) != slowSize(want) {
		t.Fatalf("Parse(%q) = %s: Same %v, Size %d", s, show(n), Same(n, want), Size(n))
	}
	return true
}

// P10.1 and P10.2, over all short texts.
func TestShortTexts(t *testing.T) {
	allTexts(pieces(), 5, func(s string) {
		checkSlow(t, s)
		checkSlow(t, "$("+s+")")
		checkSlow(t, "${if "+s+"}")
	})
}

// P10.1 and P10.2, over many longer texts.
func TestMadeTexts(t *testing.T) {
	good := 0
	madeTexts(100000, func(s string) {
		if checkSlow(t, s) {
			good++
		}
	})
	if good < 5000 {
		t.Errorf("of the texts just %d are without an error", good)
	}
}

// P10.2: nothing, one thing, and more of them.
func TestShapes(t *testing.T) {
	checkCases(t, []parseCase{
		{"", text("")},
		{"a", text("a")},
		{"$(a)", ref("a")},
		{"a$$b$$$$c", text("a$b$$c")},
		{"$$$$$$", text("$$$")},
		{"a$(b)", cat(text("a"), ref("b"))},
		{"$(a)b", cat(ref("a"), text("b"))},
		{"$(a)$(b)", cat(ref("a"), ref("b"))},
		{"a$(b)$$c$$$(d)$$", cat(text("a"), ref("b"), text("$c$"), ref("d"), text("$"))},
		{"$()$()", cat(ref(""), ref(""))},
		{"$(:=)$(strip )", cat(sub("", "", ""), calls("strip", ""))},
		{"$(a$$b$)", ref("a$b$")},
		{"$(a$$:$$b$$=c$$)", sub("a$", "$b$", "c$")},
		{"$(or $$a$,$)", calls("or", "$a$", "$")},
	})
}

// P10.3: a text without a dollar sign is a Text, whatever else it has.
func TestPlainTexts(t *testing.T) {
	for _, s := range []string{
		"", " ", "a", "abc", "a b\tc\n", "(", ")", "(a)", "{a}", "((", "}{", "a:b=c", "(a:b=c)", "strip a", "(strip a)", "{if }", "subst a,b",
		"#", "\\", "%", "\x00", "\xff\xfe", "\u20ac\uff04", "\r\n", strings.Repeat("(", 100), strings.Repeat("a", 1<<20), strings.Repeat("{if ", 1<<16),
	} {
		checkParse(t, s, text(s))
	}
	allTexts(slices.DeleteFunc(pieces(), func(p string) bool { return p == "$" }), 5, func(s string) {
		if n, err := Parse(s); err != api.OK || n.Kind != api.Text || n.S != s || len(n.L) != 0 {
			t.Fatalf("Parse(%q) = %s, %d", s, show(n), err)
		}
	})
}

// R1: great texts are read in one go, or refused, without a panic.
func TestGreatTexts(t *testing.T) {
	const n = 1 << 19
	for _, c := range []struct {
		name, piece string
		number      int
		want        api.Errno
	}{
		{"dollar signs", "$", n, api.OK},
		{"names of a byte", "$a", n, api.OK},
		{"references", "$(a)", n, api.OK},
		{"no ends", "$(", n, api.ErrForm},
		{"no ends of two kinds", "$(${", n, api.ErrForm},
		{"calls", "$(if a,b)", n / 8, api.OK},
		{"substitutions", "$(a:b=c)", n, api.OK},
	} {
		if got, err := Parse(strings.Repeat(c.piece, c.number)); err != c.want || err != api.OK && got.Kind != 0 {
			t.Errorf("%s: error %d, want %d", c.name, err, c.want)
		}
	}
	checkError(t, nest(n/8, "$(", "", ")"), api.ErrDeep)
	checkError(t, nest(n/8, "${or ", "a", "}"), api.ErrDeep)
	checkError(t, nest(n/8, "$(if a,", "", ")"), api.ErrDeep)
	checkError(t, nest(n, "$(if ", "", ")"), api.ErrFew)
	checkParse(t, "$("+nest(n, "(", "x", ")")+")", ref(nest(n, "(", "x", ")")))
	checkParse(t, "$("+strings.Repeat("a", n)+" b)", ref(strings.Repeat("a", n)+" b"))
	for _, s := range []string{"$(or " + strings.Repeat(",", n) + ")", "$(subst " + strings.Repeat(",", n) + ")", nest(api.MaxNest, "$("+strings.Repeat("(:=)", 1<<12), "x", ")")} {
		if !parses(s) {
			t.Errorf("%.20q.. is refused", s)
		}
	}
}

// R3 and R4: what a caller does with an answer changes no later answer, nor one that was given ahead of it.
func TestAnswersStayApart(t *testing.T) {
	const s = "a$(b:$c=$(d)e)$(or f,$g,h$$)"
	want := cat(text("a"), subOf(text("b"), ref("c"), cat(ref("d"), text("e"))), call("or", text("f"), ref("g"), text("h$")))
	kept, _ := Parse(s)
	for range 3 {
		n, err := Parse(s)
		if err != api.OK || !reflect.DeepEqual(n, want) {
			t.Fatalf("Parse(%q) = %s, %d", s, show(n), err)
		}
		Parse("$(")
		spoil(n.L)
	}
	if !reflect.DeepEqual(kept, want) {
		t.Errorf("an answer has become %s", show(kept))
	}
}

// spoil changes all that is below a node, and what lies behind its lists.
func spoil(l []api.Node) {
	_ = append(l, text("behind"))
	for i := range l {
		spoil(l[i].L)
		l[i] = api.Node{Kind: 9, S: "spoilt"}
	}
}

// R4: no two lists of one answer lie on one another's places.
func TestListsStayApart(t *testing.T) {
	for _, s := range []string{"$(a)b$(c)d$e", "$(or a,b,c,$(or d,e,f))", "$(a$b:c$d=e$f)", "$a$b$c$d$e$f$g"} {
		want, _ := Parse(s)
		n, _ := Parse(s)
		grow(n)
		if !reflect.DeepEqual(n, want) {
			t.Errorf("%q has become %s", s, show(n))
		}
	}
}

// grow puts a node behind each list, where there is room.
func grow(n api.Node) {
	_ = append(n.L, text("behind"))
	for _, below := range n.L {
		grow(below)
	}
}
