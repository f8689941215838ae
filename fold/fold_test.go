package fold

import (
	"strconv"
	"strings"
	"testing"

	"wainwright/api"
	"wainwright/syntax"
)

func text(s string) api.Node { return api.Node{Kind: api.Text, S: s} }

func catOf(l ...api.Node) api.Node { return api.Node{Kind: api.Cat, L: l} }

func callOf(name string, l ...api.Node) api.Node { return api.Node{Kind: api.Call, S: name, L: l} }

func refTo(n api.Node) api.Node { return api.Node{Kind: api.Ref, L: []api.Node{n}} }

func refs(name string) api.Node { return refTo(text(name)) }

func subOf(name, from, to api.Node) api.Node {
	return api.Node{Kind: api.Sub, L: []api.Node{name, from, to}}
}

func calls(name string, args ...string) api.Node {
	n := callOf(name)
	for _, s := range args {
		n.L = append(n.L, text(s))
	}
	return n
}

func parsed(t *testing.T, s string) api.Node {
	t.Helper()
	n, err := syntax.Parse(s)
	if err != api.OK {
		t.Fatalf("%.200q: error %d", s, err)
	}
	return n
}

// show is a node, each field of all below it; long texts are told by their lengths.
func show(n api.Node) string {
	s := strconv.Quote(n.S)
	if len(n.S) > 1000 {
		s = "<" + strconv.Itoa(len(n.S)) + " from " + n.S[:1] + " to " + n.S[len(n.S)-1:] + ">"
	}
	s = strconv.Itoa(n.Kind) + s
	if len(n.L) == 0 {
		return s
	}
	var l []string
	for _, below := range n.L {
		l = append(l, show(below))
	}
	return s + "(" + strings.Join(l, ", ") + ")"
}

// check holds what a node that Parse makes is folded to against another one, and asks all that is promised of it.
func check(t *testing.T, n, want api.Node) {
	t.Helper()
	if got := checked(t, n); !alike(got, want) {
		t.Errorf("Fold of %.300s: %.300s, want %.300s", show(n), show(got), show(want))
	}
}

// checkText does so of the node of a text.
func checkText(t *testing.T, s string, want api.Node) {
	t.Helper()
	check(t, parsed(t, s), want)
}

// checkTexts does so of texts that become Texts.
func checkTexts(t *testing.T, cases map[string]string) {
	t.Helper()
	for s, want := range cases {
		checkText(t, s, text(want))
	}
}

// checkReads does so of texts that become what other texts are read as.
func checkReads(t *testing.T, cases map[string]string) {
	t.Helper()
	for s, want := range cases {
		checkText(t, s, parsed(t, want))
	}
}

// checkStays does so of texts of which nothing is known ahead.
func checkStays(t *testing.T, texts ...string) {
	t.Helper()
	for _, s := range texts {
		checkText(t, s, parsed(t, s))
	}
}

// P14.1: what has nothing to be folded stays.
func TestStays(t *testing.T) {
	checkStays(t, "", "a", "$$", " a  b ", "\x00\xff", "$a", "$()", "$(a)", "$($(a))", "$(a b)", "$( a )", "$(a:b=c)", "$(:=)", "$(a:%=%.c)", "$($(a):$(b)=$(c))",
		"a$(b)c", "$a$b", "$a$$$b", "$(a)$(b:c=d)$(e)", "$(strip)", "$(if)", "$(subst:a=b)", "$(strips a)", "$(Strip  a )", "$(strip$(a))", "$(if$(a))")
}

// P14.1: what stands below another thing is folded there, whatever that is.
func TestBelow(t *testing.T) {
	checkReads(t, map[string]string{
		"$(a$(strip  b ))":                         "$(ab)",
		"$($(strip  a ))":                          "$(a)",
		"$($(strip ))":                             "$()",
		"$($(strip  a b ))":                        "$(a b)",
		"$($(a)$(strip  b ))":                      "$($(a)b)",
		"$($(strip  a ):b=c)":                      "$(a:b=c)",
		"$(a:$(strip  b )=c)":                      "$(a:b=c)",
		"$(a:b=$(strip  c ))":                      "$(a:b=c)",
		"$($(words a):$(words )=$(words b c))":     "$(1:0=2)",
		"$(info $(strip  a ))":                     "$(info a)",
		"$(or $(strip  a ),$(words a b))":          "$(or a,2)",
		"$(foreach i,$(strip  a  b ),$(i))":        "$(foreach i,a b,$(i))",
		"$(foreach $(strip ),a,$(i))":              "$(foreach ,a,$(i))",
		"$(let a b,$(sort d c),$(a)$(if x,-)$(b))": "$(let a b,c d,$(a)-$(b))",
		"$(call f,$(strip  a ),$(words ))":         "$(call f,a,0)",
		"$(if $(a),$(strip  b ),$(words c))":       "$(if $(a),b,1)",
		"$(strip $(a)$(strip  b ))":                "$(strip $(a)b)",
		"$(strip $(filter $(sort b a),a))":         "$(strip $(filter a b,a))",
	})
}

// within is a text within so many others.
func within(times int, ahead, s, behind string) string {
	return strings.Repeat(ahead, times) + s + strings.Repeat(behind, times)
}

// P14.1: calls within one another, as deep as a text may have them.
func TestDeep(t *testing.T) {
	for _, times := range []int{2, 3, 7, api.MaxNest - 1, api.MaxNest} {
		ends := strings.Repeat(".c", times)
		checkTexts(t, map[string]string{
			within(times, "$(strip ", "  a  b ", ")"):       "a b",
			within(times, "$(words ", "a b", ")"):           "1",
			within(times, "$(if a,", " b ", ")"):            " b ",
			within(times, "$(if ,x,", " c ", ")"):           " c ",
			within(times, "$(if ", "a", ",b)"):              "b",
			within(times, "$(if ", " ", ",b)"):              "",
			within(times, "$(if ", " ", ",b,c)"):            "b",
			within(times, "$(addsuffix .c,", "a b", ")"):    "a" + ends + " b" + ends,
			within(times, "<$(strip ", " a ", ")>"):         strings.Repeat("<", times) + "a" + strings.Repeat(">", times),
			within(times/2, "$(if x,$(sort ", " b a", "))"): "a b",
		})
		checkReads(t, map[string]string{
			within(times, "$(strip ", "$", ")"):                        "$",
			within(times-1, "$(strip ", "$a", ")"):                     within(times-1, "$(strip ", "$a", ")"),
			within(times-1, "$(", "$(strip  a )", ")"):                 within(times-1, "$(", "a", ")"),
			within(times-1, "$(if $a,", "$(strip  b )", ",$(words ))"): within(times-1, "$(if $a,", "b", ",0)"),
			within(times-1, "$(if a,", "$(b)", ")"):                    "$(b)",
			within(times-1, "x$(info ", "$(if ,b)", ")$(if ,b)"):       within(times-1, "x$(info ", "", ")"),
		})
	}
}

// P14.1: many side by side.
func TestWide(t *testing.T) {
	const many = 5000
	row := func(s string) string { return strings.Repeat(s, many) }
	checkTexts(t, map[string]string{
		row("$(strip  a )"):                         row("a"),
		row("b$(words )"):                           row("b0"),
		row("$(if ,b)"):                             "",
		row("$(if ,b)$(if a,)"):                     "",
		"x" + row("$(if ,b)") + "y":                 "xy",
		"$(strip " + row("$(if a, b)") + ")":        row("b ")[:2*many-1],
		"$(words " + row("$(firstword b c) ") + ")": strconv.Itoa(many),
	})
	checkReads(t, map[string]string{
		row("$(a)$(if ,b)"):                      row("$(a)"),
		row("$(a)$(strip  b )c"):                 row("$(a)bc"),
		row("$(if a,$(b))"):                      row("$(b)"),
		"$(or " + row("$(words ),") + ")":        "$(or " + row("0,") + ")",
		"$(call f" + row(",$(if ,b,$(c))") + ")": "$(call f" + row(",$(c)") + ")",
	})
}
