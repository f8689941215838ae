package syntax

import (
	"reflect"
	"strconv"
	"strings"
	"testing"

	"wainwright/api"
)

func text(s string) api.Node { return api.Node{Kind: api.Text, S: s} }

func cat(l ...api.Node) api.Node { return api.Node{Kind: api.Cat, L: l} }

func call(name string, l ...api.Node) api.Node { return api.Node{Kind: api.Call, S: name, L: l} }

func refTo(n api.Node) api.Node { return api.Node{Kind: api.Ref, L: []api.Node{n}} }

func subOf(name, from, to api.Node) api.Node {
	return api.Node{Kind: api.Sub, L: []api.Node{name, from, to}}
}

func ref(name string) api.Node { return refTo(text(name)) }

func sub(name, from, to string) api.Node { return subOf(text(name), text(from), text(to)) }

func calls(name string, args ...string) api.Node {
	n := call(name)
	for _, s := range args {
		n.L = append(n.L, text(s))
	}
	return n
}

// checkParse holds what Parse answers against an expansion that is to come without an error.
func checkParse(t *testing.T, s string, want api.Node) {
	t.Helper()
	n, err := Parse(s)
	if err != api.OK || !reflect.DeepEqual(n, want) {
		t.Errorf("Parse(%q) = %s, %d, want %s", s, show(n), err, show(want))
	}
}

// checkError holds what Parse answers against an error: the expansion is zero.
func checkError(t *testing.T, s string, want api.Errno) {
	t.Helper()
	if n, err := Parse(s); err != want || !reflect.DeepEqual(n, api.Node{}) {
		t.Errorf("Parse(%.200q) = %.200s, %d, want error %d", s, show(n), err, want)
	}
}

// show is an expansion for a test's message.
func show(n api.Node) string {
	s := strconv.Itoa(n.Kind) + strconv.Quote(n.S)
	if len(n.L) == 0 {
		return s
	}
	var l []string
	for _, below := range n.L {
		l = append(l, show(below))
	}
	return s + "(" + strings.Join(l, ", ") + ")"
}

type parseCase struct {
	s    string
	want api.Node
}

func checkCases(t *testing.T, cases []parseCase) {
	t.Helper()
	for _, c := range cases {
		checkParse(t, c.s, c.want)
	}
}

// P10.1: a dollar sign at the end, doubled, and ahead of a byte.
func TestDollars(t *testing.T) {
	checkCases(t, []parseCase{
		{"$", text("$")},
		{"a$", text("a$")},
		{"$$", text("$")},
		{"$$$", text("$$")},
		{"$$$$", text("$$")},
		{"a$$b$$", text("a$b$")},
		{"$$a", text("$a")},
		{"$$(a)", text("$(a)")},
		{"$$$(a)", cat(text("$"), ref("a"))},
		{"$$(", text("$(")},
		{"$a", ref("a")},
		{"$ab", cat(ref("a"), text("b"))},
		{"x$ab", cat(text("x"), ref("a"), text("b"))},
		{"$a$", cat(ref("a"), text("$"))},
		{"$a$$b", cat(ref("a"), text("$b"))},
		{"$a$b", cat(ref("a"), ref("b"))},
		{"$@$<", cat(ref("@"), ref("<"))},
		{"$ x", cat(ref(" "), text("x"))},
		{"$\t", ref("\t")},
		{"$\n\n", cat(ref("\n"), text("\n"))},
		{"$)", ref(")")},
		{"$})", cat(ref("}"), text(")"))},
		{"$\x00", ref("\x00")},
		{"$\xff", ref("\xff")},
		{"$\u00e9", cat(ref("\xc3"), text("\xa9"))},
		{"$,$:$=", cat(ref(","), ref(":"), ref("="))},
	})
}

// P10.1: each byte ahead of a dollar sign, behind one, and behind two.
func TestEachByte(t *testing.T) {
	for i := range 256 {
		b := string([]byte{byte(i)})
		if b == "$" {
			continue
		}
		checkParse(t, "$$"+b, text("$"+b))
		checkParse(t, b, text(b))
		checkParse(t, b+"$", text(b+"$"))
		if b != "(" && b != "{" {
			checkParse(t, "$"+b, ref(b))
			checkParse(t, b+"$"+b+b, cat(text(b), ref(b), text(b)))
		}
	}
}

// P10.1: references go to the bracket of their own kind, whatever the others do.
func TestReferences(t *testing.T) {
	checkCases(t, []parseCase{
		{"$(a)", ref("a")},
		{"${a}", ref("a")},
		{"$()", ref("")},
		{"${}", ref("")},
		{"$(a b)", ref("a b")},
		{"$( a )", ref(" a ")},
		{"$(a)b", cat(ref("a"), text("b"))},
		{"$(a))", cat(ref("a"), text(")"))},
		{"${a}}", cat(ref("a"), text("}"))},
		{"x$(a)y${b}z", cat(text("x"), ref("a"), text("y"), ref("b"), text("z"))},
		{"$(a(b)c)", ref("a(b)c")},
		{"$(())", ref("()")},
		{"$(()())", ref("()()")},
		{"${a{b}c}", ref("a{b}c")},
		{"$(a(b))c)", cat(ref("a(b)"), text("c)"))},
		{"$(a{b)", ref("a{b")},
		{"$(a}b)", ref("a}b")},
		{"$(a{b)c}", cat(ref("a{b"), text("c}"))},
		{"${a(b}", ref("a(b")},
		{"${a)b}", ref("a)b")},
		{"${a(b}c)", cat(ref("a(b"), text("c)"))},
		{"$({()})", ref("{()}")},
		{"$($(a))", refTo(ref("a"))},
		{"${$(a)}", refTo(ref("a"))},
		{"$(a$(b)c${d})", refTo(cat(text("a"), ref("b"), text("c"), ref("d")))},
		{"$($a)", refTo(ref("a"))},
		{"$($$)", ref("$")},
		{"$($)", ref("$")},
		{"$(a$)", ref("a$")},
		{"${a$}b", cat(ref("a$"), text("b"))},
		{"$($())", refTo(ref(""))},
		{"$(\x00\xff)", ref("\x00\xff")},
	})
}

// P10.1: the first : at which no bracket is open, and the first = behind it at which none is.
func TestSubstitutions(t *testing.T) {
	checkCases(t, []parseCase{
		{"$(a:.c=.o)", sub("a", ".c", ".o")},
		{"${a:.c=.o}", sub("a", ".c", ".o")},
		{"$(a:%.c=%.o)", sub("a", "%.c", "%.o")},
		{"$(:=)", sub("", "", "")},
		{"$(a:=)", sub("a", "", "")},
		{"$(a:=b)", sub("a", "", "b")},
		{"$(:b=)", sub("", "b", "")},
		{"$( a : b = c )", sub(" a ", " b ", " c ")},
		{"$(a)b:c=d", cat(ref("a"), text("b:c=d"))},
		{"$(a:b)", ref("a:b")},
		{"$(a=b)", ref("a=b")},
		{"$(a=b:c)", ref("a=b:c")},
		{"$(a=b:c=d)", sub("a=b", "c", "d")},
		{"$(a==b:c=d)", sub("a==b", "c", "d")},
		{"$(a:b:c=d)", sub("a", "b:c", "d")},
		{"$(a:b=c:d=e)", sub("a", "b", "c:d=e")},
		{"$(a:b=c=d)", sub("a", "b", "c=d")},
		{"$(a:b==c)", sub("a", "b", "=c")},
		{"$(a::=b)", sub("a", ":", "b")},
		{"$(a(:)b)", ref("a(:)b")},
		{"$(a{:}b)", ref("a{:}b")},
		{"$(a(:b=c))", ref("a(:b=c)")},
		{"$(a{:b=c})", ref("a{:b=c}")},
		{"${a(:b=c)}", ref("a(:b=c)")},
		{"$(a{:b=c)", ref("a{:b=c")},
		{"${a(:b=c}", ref("a(:b=c")},
		{"$(a(:)b:c=d)", sub("a(:)b", "c", "d")},
		{"$(a{:}b:c=d)", sub("a{:}b", "c", "d")},
		{"${a(:)b:c=d}", sub("a(:)b", "c", "d")},
		{"$(a({:}:)b:c=d)", sub("a({:}:)b", "c", "d")},
		{"$(a:(b=c))", ref("a:(b=c)")},
		{"$(a:{b=c})", ref("a:{b=c}")},
		{"$(a:(=)=x)", sub("a", "(=)", "x")},
		{"$(a:{=}=x)", sub("a", "{=}", "x")},
		{"${a:(=)=x}", sub("a", "(=)", "x")},
		{"$(a:{=)", ref("a:{=")},
		{"$(a:b=(c=d))", sub("a", "b", "(c=d)")},
		{"$(a:{=}(=:=)=x)", sub("a", "{=}(=:=)", "x")},
		// The first : counts, even where a = is behind a later one alone.
		{"$(a:(b:c=d))", ref("a:(b:c=d)")},
		// What shuts nothing counts for nothing.
		{"$(a}:b=c)", sub("a}", "b", "c")},
		{"${a):b=c}", sub("a)", "b", "c")},
		{"$(a:b}=c)", sub("a", "b}", "c")},
		{"$(a}{:b=c)", ref("a}{:b=c")},
		{"$(a}}{:}b:c=d)", sub("a}}{:}b", "c", "d")},
		{"$(a:}{=}b=c)", sub("a", "}{=}b", "c")},
		// Brackets of both kinds are counted together.
		{"$(a(}:b=c))", sub("a(}", "b", "c)")},
		{"$(a({):b=c)", ref("a({):b=c")},
		{"$(a:(}=c))", sub("a", "(}", "c)")},
		// A dollar sign shields nothing.
		{"$($:a=b)", sub("$", "a", "b")},
		{"$(a:$=b)", sub("a", "$", "b")},
		// References within.
		{"$($(a:b=c))", refTo(sub("a", "b", "c"))},
		{"$($(x:y=z):p=$(q))", subOf(sub("x", "y", "z"), text("p"), ref("q"))},
		{"$(a:$(b)=${c:d=e})", subOf(text("a"), ref("b"), sub("c", "d", "e"))},
		{"$($a:$b.c=$c.o)", subOf(ref("a"), cat(ref("b"), text(".c")), cat(ref("c"), text(".o")))},
		{"$(a,b:c=d)", sub("a,b", "c", "d")},
		{"$(a b:c d=e f)", sub("a b", "c d", "e f")},
	})
}

// P10.1: what is behind a run of letters and - tells whether it is a call.
func TestNames(t *testing.T) {
	checkCases(t, []parseCase{
		{"$(strip a)", calls("strip", "a")},
		{"${strip a}", calls("strip", "a")},
		{"$(strip)", ref("strip")},
		{"$(strip,a)", ref("strip,a")},
		{"$(strip:a=b)", sub("strip", "a", "b")},
		{"$(strip$ a)", refTo(cat(text("strip"), ref(" "), text("a")))},
		{"$(strip(a) b)", ref("strip(a) b")},
		{"$(strip\ra)", ref("strip\ra")},
		{"$(strip\va)", ref("strip\va")},
		{"$(strip\x00a)", ref("strip\x00a")},
		{"$(strip\u00a0a)", ref("strip\u00a0a")},
		{"$(strips a)", ref("strips a")},
		{"$(stri a)", ref("stri a")},
		{"$(Strip a)", ref("Strip a")},
		{"$(STRIP a)", ref("STRIP a")},
		{"$(strip1 a)", ref("strip1 a")},
		{"$(strip- a)", ref("strip- a")},
		{"$(-strip a)", ref("-strip a")},
		{"$(strip_ a)", ref("strip_ a")},
		{"$(strip` a)", ref("strip` a")},
		{"$(strip{ a)", ref("strip{ a")},
		{"$( strip a)", ref(" strip a")},
		{"$($(strip) a)", refTo(cat(ref("strip"), text(" a")))},
		{"$(word list,a,b)", calls("word", "list", "a,b")},
		{"$(wordlist a,b,c)", calls("wordlist", "a", "b", "c")},
		{"$(filter a,b)", calls("filter", "a", "b")},
		{"$(filter-out a,b)", calls("filter-out", "a", "b")},
		{"$(filter -out a,b)", calls("filter", "-out a", "b")},
		{"$(filter-o a,b)", ref("filter-o a,b")},
		{"$(a strip b)", ref("a strip b")},
		{"$( a)", ref(" a")},
		{"$(a b:c=d)", sub("a b", "c", "d")},
		{"$(strip a:b=c)", calls("strip", "a:b=c")},
		{"$(words a:(b=c),d)", calls("words", "a:(b=c),d")},
	})
}

// P10.1: the blanks behind a name go, all others stay.
func TestBlanks(t *testing.T) {
	checkCases(t, []parseCase{
		{"$(strip  a )", calls("strip", "a ")},
		{"$(strip \t\n a\t\n )", calls("strip", "a\t\n ")},
		{"$(strip )", calls("strip", "")},
		{"$(strip \n\t )", calls("strip", "")},
		{"$(strip \ra)", calls("strip", "\ra")},
		{"$(or  a , b)", calls("or", "a ", " b")},
		{"$(or  , )", calls("or", "", " ")},
		{"$(subst ,,)", calls("subst", "", "", "")},
	})
}

// P10.1: commas within brackets of the reference's kind cut nothing, those within others do.
func TestCommas(t *testing.T) {
	checkCases(t, []parseCase{
		{"$(subst (,),b,c)", calls("subst", "(,)", "b", "c")},
		{"$(subst ((,),(,)),b,c)", calls("subst", "((,),(,))", "b", "c")},
		{"$(subst a,(,),c)", calls("subst", "a", "(,)", "c")},
		{"$(subst a,b,(c,d))", calls("subst", "a", "b", "(c,d)")},
		{"$(subst a,b,c,(d),e)", calls("subst", "a", "b", "c,(d),e")},
		{"$(subst {,},c)", calls("subst", "{", "}", "c")},
		{"$(subst },{,c)", calls("subst", "}", "{", "c")},
		{"${subst {,},b,c}", calls("subst", "{,}", "b", "c")},
		{"${subst {{,},{,}},b,c}", calls("subst", "{{,},{,}}", "b", "c")},
		{"${subst (,),c}", calls("subst", "(", ")", "c")},
		{"${subst ),(,c}", calls("subst", ")", "(", "c")},
		{"$(or ({,),},a)", calls("or", "({,)", "}", "a")},
		{"${or {(,},),a}", calls("or", "{(,}", ")", "a")},
		{"$(strip a,b)", calls("strip", "a,b")},
		{"$(subst $(x,y),$(if a,b),c)", call("subst", ref("x,y"), calls("if", "a", "b"), text("c"))},
		{"$(or $,a)", call("or", text("$"), text("a"))},
		{"$(or $$,a)", call("or", text("$"), text("a"))},
		{"${or ${a,b},$(c)}", call("or", ref("a,b"), ref("c"))},
	})
}

// P10.1: arguments are texts with references.
func TestArguments(t *testing.T) {
	checkCases(t, []parseCase{
		{"$(call f,$(a),b c,)", call("call", text("f"), ref("a"), text("b c"), text(""))},
		{"$(info $(if $(a),$$))", call("info", call("if", ref("a"), text("$")))},
		{"$(foreach x,$(l),<$(x)>)", call("foreach", text("x"), ref("l"), cat(text("<"), ref("x"), text(">")))},
		{"a$(strip $b )c", cat(text("a"), call("strip", cat(ref("b"), text(" "))), text("c"))},
		{"$($(strip a) b:$(or c)=d)", subOf(cat(calls("strip", "a"), text(" b")), calls("or", "c"), text("d"))},
	})
}
