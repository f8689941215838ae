package print

import (
	"strings"
	"testing"

	"wainwright/api"
	"wainwright/table"
)

// noShapes is nodes whose shapes alone tell that no text is read as they.
func noShapes() map[string]api.Node {
	a, b := text("a"), refs("b")
	with := func(n api.Node, s string) api.Node {
		n.S = s
		return n
	}
	return map[string]api.Node{
		"zero":                         {},
		"a kind that is none":          {Kind: 6},
		"a kind below all":             {Kind: -1, S: "a"},
		"a greater kind":               {Kind: 1 << 40, S: "a", L: []api.Node{a}},
		"a kind that is none, of two":  {Kind: 9, L: []api.Node{a, b}},
		"a Text with a Text below":     {Kind: api.Text, S: "a", L: []api.Node{a}},
		"a Text with a Ref below":      {Kind: api.Text, L: []api.Node{b}},
		"a Ref of none":                {Kind: api.Ref},
		"a Ref of an empty list":       {Kind: api.Ref, L: []api.Node{}},
		"a Ref of two":                 {Kind: api.Ref, L: []api.Node{a, b}},
		"a Ref with an S":              with(refs("a"), "a"),
		"a Sub of none":                {Kind: api.Sub},
		"a Sub of one":                 {Kind: api.Sub, L: []api.Node{a}},
		"a Sub of two":                 {Kind: api.Sub, L: []api.Node{a, b}},
		"a Sub of four":                {Kind: api.Sub, L: []api.Node{a, b, a, b}},
		"a Sub with an S":              with(subs("a", "b", "c"), "a"),
		"a Call of none":               callOf("or"),
		"a Call of an empty list":      {Kind: api.Call, S: "strip", L: []api.Node{}},
		"a Call without a name":        callOf("", a),
		"a Cat of none":                catOf(),
		"a Cat of none, with an S":     {Kind: api.Cat, S: "a"},
		"a Cat of one Text":            catOf(a),
		"a Cat of one Ref":             catOf(b),
		"a Cat with an S":              with(catOf(a, b), "a"),
		"a Cat of two Texts":           catOf(a, a),
		"two Texts at the end":         catOf(b, a, a),
		"a Text without bytes ahead":   catOf(text(""), b),
		"a Text without bytes behind":  catOf(b, text("")),
		"a Text without bytes between": catOf(b, text(""), b),
		"Texts without bytes":          catOf(text(""), text("")),
		"a Cat of a Cat":               catOf(catOf(a, b), b),
		"a Cat of a Cat behind":        catOf(b, catOf(a, b)),
		"a Cat of a Cat of Refs":       catOf(b, catOf(b, b)),
		"a Cat of Cats":                catOf(catOf(a, b), catOf(b, a)),
		"a Cat of a Cat of none":       catOf(a, b, catOf()),
		"a Cat of a kind that is none": catOf(b, api.Node{}),
	}
}

// P11.1: shapes that Parse never answers, by themselves and within others.
func TestNoShapes(t *testing.T) {
	for name, n := range noShapes() {
		checkNone(t, name, n)
		checkNone(t, name+", in a Cat", catOf(refs("r"), n))
		for _, out := range references() {
			checkNone(t, name+", in "+out.ahead+out.behind, out.of(n))
			checkNone(t, name+", deeper in "+out.ahead+out.behind, catOf(text("s"), out.of(refTo(n))))
		}
	}
}

type noneCase struct {
	name string
	n    api.Node
}

func checkNones(t *testing.T, cases []noneCase) {
	t.Helper()
	for _, c := range cases {
		checkNone(t, c.name, c.n)
		checkNone(t, c.name+", in a Ref", refTo(c.n))
		checkNone(t, c.name+", in a Call", callOf("or", text("x"), c.n))
		checkNone(t, c.name+", in a Cat", catOf(c.n, text("x")))
	}
}

// P11.1: a Call of a name that is none of table's.
func TestNoFunctions(t *testing.T) {
	for _, name := range []string{"hop", "", "Strip", "STRIP", "strips", "stri", " strip", "strip ", "strip\t", "strip a", "strip,", "strip)", "(strip", "or,", "or a,", "$", "$(or", "or:", "filter-", "-filter", "\x00", "\xff", "or\n"} {
		for n := range 5 {
			checkNone(t, "the function "+name, calls(name, []string{"a", "b", "c", "d"}[:n]...))
		}
	}
	checkNone(t, "another function", calls("a:b=c d", "e"))
}

// P11.1: each function with each number of arguments; there is a text for those that it may have.
func TestNumbersOfArguments(t *testing.T) {
	for _, name := range table.Names() {
		info, _ := table.Find(name)
		want := "$(" + name + " "
		n := callOf(name)
		for i := range 9 {
			if i < max(info.Min, 1) || info.Max > 0 && i > info.Max {
				checkNone(t, name, n)
			} else {
				checkPrint(t, n, want+")")
			}
			if i > 0 {
				want += ","
			}
			n.L = append(n.L, text("a"))
			want += "a"
		}
	}
}

// P11.1: arguments that would be cut elsewhere, or would lose a blank.
func TestNoArguments(t *testing.T) {
	checkNones(t, []noneCase{
		{"a comma", calls("or", "a,b")},
		{"a comma in the first", calls("subst", "a,b", "c", "d")},
		{"a comma in the second", calls("subst", "a", "b,c", "d")},
		{"a comma in the one ahead of the last that may be", calls("if", "a", "b,c", "d")},
		{"a comma in the last, where one more may be", calls("if", "a", "b,c")},
		{"a comma alone", calls("or", ",")},
		{"a comma in braces", calls("or", "{,}")},
		{"a comma behind a Ref", callOf("or", catOf(refs("a"), text(",b")))},
		{"a comma in brackets that are shut ahead", callOf("or", text("()"), text("a,b"))},
		{"a bracket that opens, and is not shut", calls("strip", "(")},
		{"a bracket that opens in one, and is shut in the next one", calls("or", "(", ")")},
		{"brackets that open in one, and are shut in the last one", calls("subst", "((", "b)", ")")},
		{"a bracket that shuts nothing", calls("strip", ")")},
		{"a bracket that shuts, and one that opens", calls("strip", ")(")},
		{"a bracket that shuts in one, and one that opens in the next one", calls("or", ")", "(")},
		{"a bracket behind a Ref", callOf("strip", catOf(refs("a"), text(")")))},
		{"brackets around a Ref, none behind", callOf("strip", catOf(text("("), refs("a")))},
		{"a blank ahead", calls("strip", " a")},
		{"a byte 9 ahead", calls("or", "\ta", "b")},
		{"a byte 10 ahead", calls("or", "\n", "b")},
		{"a blank alone", calls("strip", " ")},
		{"a blank ahead of a Ref", callOf("strip", catOf(text(" "), refs("a")))},
	})
	checkCases(t, []printCase{
		{calls("strip", "a,b"), "$(strip a,b)"},
		{calls("if", "a", "b", "c,d,"), "$(if a,b,c,d,)"},
		{calls("subst", "(,)", "((,),)", "c"), "$(subst (,),((,),),c)"},
		{calls("or", "(a,b)"), "$(or (a,b))"},
		{calls("or", "{", "}"), "$(or {,})"},
		{calls("or", "}", "{"), "$(or },{)"},
		{calls("or", "a ", " b", "\tc", " "), "$(or a , b,\tc, )"},
		{calls("strip", "\ra"), "$(strip \ra)"},
		{calls("or", "a:b=c", "if a"), "$(or a:b=c,if a)"},
		{callOf("or", catOf(text("("), refs("a"), text(",)"))), "$(or ($(a),))"},
		{callOf("or", refs("a,b"), calls("or", "a", "b")), "$(or $(a,b),$(or a,b))"},
	})
}

// P11.1: names that would be read otherwise.
func TestNoNames(t *testing.T) {
	checkNones(t, []noneCase{
		{"a bracket that opens", refs("a(")},
		{"a bracket that shuts", refs("a)")},
		{"a bracket that shuts, and one that opens", refs(")(")},
		{"a bracket alone", refs("(")},
		{"a bracket that shuts alone", refs(")")},
		{"one bracket more opens", refs("(()")},
		{"one bracket more shuts", refs("())")},
		{"a bracket ahead of a Ref", refTo(catOf(text("("), refs("a")))},
		{"a bracket behind a Ref", refTo(catOf(refs("a"), text(")")))},
		{"a call", refs("strip a")},
		{"a call of nothing", refs("strip ")},
		{"a call by a byte 9", refs("or\ta,b")},
		{"a call by a byte 10", refs("if\na,b,c")},
		{"a call of too few", refs("if a")},
		{"a call of a Ref", refTo(catOf(text("strip "), refs("a")))},
		{"a call with a :, and a =", refs("strip a:b=c")},
		{"a substitution", refs("a:b=c")},
		{"a substitution of nothing", refs(":=")},
		{"a substitution of Refs", refTo(catOf(refs("a"), text(":"), refs("b"), text("="), refs("c")))},
		{"a substitution behind braces", refs("{:}a:b=c")},
		{"a substitution behind a brace that shuts nothing", refs("}:=")},
		{"a Sub's name that would be a call", subs("strip a", "b", "c")},
		{"a Sub's name that would be a call of too few", subs("if a", "b", "c")},
	})
	checkCases(t, []printCase{
		{refs("(a)"), "$((a))"},
		{refs("((a)b)()"), "$(((a)b)())"},
		{refs("a{"), "$(a{)"},
		{refs("}a"), "$(}a)"},
		{refs("a,b"), "$(a,b)"},
		{refs(" a"), "$( a)"},
		{refs("a b"), "$(a b)"},
		{refs("strip"), "$(strip)"},
		{refs("strip,a"), "$(strip,a)"},
		{refs(" strip a"), "$( strip a)"},
		{refs("strip\ra"), "$(strip\ra)"},
		{refs("strips a"), "$(strips a)"},
		{refs("hop a"), "$(hop a)"},
		{refs("$(a)"), "$($$(a))"},
		{refTo(catOf(text("("), refs("a"), text(")"))), "$(($(a)))"},
		{refTo(catOf(text("strip"), refs("a"))), "$(strip$(a))"},
		{refTo(catOf(refs("strip"), text(" a"))), "$($(strip) a)"},
		{refs("a:b"), "$(a:b)"},
		{refs("a=b"), "$(a=b)"},
		{refs("a=b:c"), "$(a=b:c)"},
		{refs("(a:b=c)"), "$((a:b=c))"},
		{refs("{a:b=c}"), "$({a:b=c})"},
		{refs("a:(b=c)"), "$(a:(b=c))"},
		{refs("a{:b=c"), "$(a{:b=c)"},
		{refTo(catOf(refs("a"), text(":b"))), "$($(a):b)"},
	})
}

// P11.1: substitutions that would be cut elsewhere.
func TestNoSubstitutions(t *testing.T) {
	checkNones(t, []noneCase{
		{"a : in the name", subs("a:b", "c", "d")},
		{"a : alone in the name", subs(":", "", "")},
		{"a : in the name behind a Ref", subOf(catOf(refs("a"), text(":b")), text("c"), text("d"))},
		{"a = in from", subs("a", "b=c", "d")},
		{"a = alone in from", subs("a", "=", "")},
		{"a = in from behind a Ref", subOf(text("a"), catOf(refs("b"), text("=")), text("c"))},
		{"a bracket opens in the name", subs("a(", "b", "c")},
		{"a bracket shuts in the name", subs("a)", "b", "c")},
		{"a bracket opens in from", subs("a", "(b", "c")},
		{"a bracket shuts in from", subs("a", "b)", "c")},
		{"a bracket opens in to", subs("a", "b", "(c")},
		{"a bracket shuts in to", subs("a", "b", ")c")},
		{"a bracket opens in the name and is shut in from", subs("a(", "b)", "c")},
		{"a bracket opens in from and is shut in to", subs("a", "(b", "c)")},
		{"a brace opens in the name", subs("a{", "b", "c")},
		{"a brace opens in the name and is shut in from", subs("{", "}", "c")},
		{"a brace opens in from", subs("a", "{", "c")},
		{"a brace opens in from and is shut in to", subs("a", "{", "}")},
		{"a brace opens in a name within the name", subOf(refs("a{"), text("b"), text("c"))},
		{"a brace opens in a name within from", subOf(text("a"), refs("b{"), text("c"))},
	})
	checkCases(t, []printCase{
		{subs("a=b", "c", "d"), "$(a=b:c=d)"},
		{subs("a", "b:c", "d"), "$(a:b:c=d)"},
		{subs("a", "b", "c=d:e="), "$(a:b=c=d:e=)"},
		{subs("(a:b=c)", "(=)", "(d)"), "$((a:b=c):(=)=(d))"},
		{subs("{:}", "{=}", "{"), "$({:}:{=}={)"},
		{subs("a}", "}b", "}"), "$(a}:}b=})"},
		{subs("a", "b", "{"), "$(a:b={)"},
		{subs("a b,c", " ", ","), "$(a b,c: =,)"},
		{subs("strip", "a b", "c"), "$(strip:a b=c)"},
		{subs(" strip a", "b", "c"), "$( strip a:b=c)"},
		{subs("a", "%.c", "%.o"), "$(a:%.c=%.o)"},
		{subOf(subs("a", "b", "c"), subs("d", "e", "f"), subs("g", "h", "i")), "$($(a:b=c):$(d:e=f)=$(g:h=i))"},
		{subOf(text("a"), text("b"), refs("c{")), "$(a:b=$(c{))"},
		{subOf(refs("a{}"), refs("{b}"), text("c")), "$($(a{}):$({b})=c)"},
	})
}

// P11.1: each byte in each place of a reference.
func TestBytesInPlaces(t *testing.T) {
	none := []string{"()", "(){:", "(){=", "()", "() \t\n", "(), \t\n", "(),", "(),", "()"} // by references
	for at, out := range references() {
		for i := range 256 {
			b := string([]byte{byte(i)})
			if strings.Contains(none[at], b) {
				checkNone(t, out.ahead+b+out.behind, out.of(text(b)))
			} else {
				checkPrint(t, out.of(text(b)), out.ahead+strings.ReplaceAll(b, "$", "$$")+out.behind)
			}
		}
	}
}
