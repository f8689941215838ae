package sound

import (
	"math/rand"
	"strings"
	"testing"

	"wainwright/api"
	"wainwright/code"
	"wainwright/syntax"
)

// need is how much of a pile a node needs in its own block, and the most that any block within it needs.
func need(n api.Node) (own, within int) {
	own = 1
	for i, below := range n.L {
		o, w := need(below)
		within = max(within, w)
		if isLazy(n) {
			within = max(within, o)
		} else {
			own = max(own, i+o)
		}
	}
	return own, within
}

func isLazy(n api.Node) bool {
	for _, f := range functions {
		if n.Kind == api.Call && n.S == f.name {
			return f.lazy
		}
	}
	return false
}

// checkCompiled asks that what a text is compiled into may be, and how deep it is; it tells whether the text is read without an error.
func checkCompiled(t *testing.T, s string) bool {
	t.Helper()
	n, err := syntax.Parse(s)
	if err != api.OK {
		return false
	}
	depth := max(need(n))
	if syntax.Size(n) > api.MaxOps {
		depth = 0
	}
	c := code.Compile(n)
	if ok, got := Check(c), Depth(c); ok != (depth > 0) || got != depth || got != slow(c) {
		t.Fatalf("%.200q: Check is %v, Depth is %d, want %d: %s", s, ok, got, depth, brief(c))
	}
	return true
}

// P13.2 and P13.1's Depth: texts by hand.
func TestTexts(t *testing.T) {
	for s, depth := range map[string]int{
		"": 1, "a": 1, "$$": 1, "$a": 1, "$()": 1, "$($($(a)))": 1, "$(a:b=c)": 3, "$($(a:b=c):d=e)": 3, "$(a:b=$(c:d=e))": 5, "$a$b": 2, "a$b": 2, "a$(b)c": 3, "$($a$b)": 2, "$($a$b)$c": 2, "a$(b$c)": 3,
		"$(strip a)": 1, "$(join a,b)": 2, "$(subst a,b,c)": 3, "$(subst a,b,$(subst c,d,e))": 5, "$(subst $(subst c,d,e),a,b)": 3, "$(call a)": 1, "$(call a,b,c,d,e)": 5, "$(call )": 1,
		"$(if a,b)": 1, "$(if a,b,c)": 1, "$(or )": 1, "$(or a,b,c,d)": 1, "$(and $a$b)": 2, "x$(and $a)": 2, "x$(and a$b)": 2, "x$(and a$b$c)": 3, "xy$(and a)$b": 3, "$(if a,$(if b,$(if c,$d$e$f)))": 3,
		"$(foreach i,a b,<$i>)": 3, "$(let a b,c d,$a$b)": 2, "$(intcmp 1,2,3,4,5)": 1, "$(strip $(or a,$(subst b,c,d)))": 3, "$(error no)": 1, "$(wildcard *)": 1, "$(eval a = $$b)": 1,
	} {
		n, err := syntax.Parse(s)
		if err != api.OK {
			t.Fatalf("%q: error %d", s, err)
		}
		check(t, s, code.Compile(n), depth)
		checkCompiled(t, s)
	}
}

// P13.2 over all short texts.
func TestShortTexts(t *testing.T) {
	for _, pieces := range [][]string{
		{"$", "(", ")", "{", "}", ",", ":", "=", "or ", "a"},
		{"$(or ", "$(and ", ")", ",", "$a", "x"},
		{"$(if ", "$(strip ", "$(", ":b=c)", ")", ",", "x"},
	} {
		read := 0
		var grow func(s string, left int)
		grow = func(s string, left int) {
			if checkCompiled(t, s) {
				read++
			}
			if left == 0 {
				return
			}
			for _, p := range pieces {
				grow(s+p, left-1)
			}
		}
		grow("", 5)
		if read < 1000 {
			t.Errorf("of the texts of %q just %d are read", pieces, read)
		}
	}
}

// P13.2 over many longer texts; they are the same each time.
func TestMadeTexts(t *testing.T) {
	pieces := strings.Fields("$( $( ${ ) ) ) ) } } ( $$ $ , , , : = a b $a $b $(a) $(a:b=c) ${a}")
	for _, f := range functions {
		pieces = append(pieces, "$("+f.name+" ", "$("+f.name+" a"+strings.Repeat(",$b", f.least)+")")
		if f.lazy {
			pieces = append(pieces, "$("+f.name+" a,$(or x,y),", "$("+f.name+" $(strip $a),b,")
		}
	}
	r := rand.New(rand.NewSource(132))
	read := 0
	for range 100000 {
		var s strings.Builder
		for range r.Intn(30) {
			s.WriteString(pieces[r.Intn(len(pieces))])
		}
		s.WriteString(strings.Repeat(")", r.Intn(8)))
		if checkCompiled(t, s.String()) {
			read++
		}
	}
	if read < 10000 {
		t.Errorf("of the texts just %d are read", read)
	}
}

// P13.2: texts of as many nodes as there may be instructions, and of more, which may not be.
func TestGreatTexts(t *testing.T) {
	for s, times := range map[string]int{"$a": (api.MaxOps - 2) / 2, "$(or b,$c)": (api.MaxOps - 1) / 4, "$(strip d)": (api.MaxOps - 1) / 2} {
		for _, ahead := range []string{"", "x"} {
			for more := range 3 {
				if !checkCompiled(t, ahead+strings.Repeat(s, times-1+more)) {
					t.Errorf("%q is not read", s)
				}
			}
		}
	}
	check(t, "as many as may be", code.Compile(parsed(t, "x"+strings.Repeat("$a", api.MaxOps/2-1))), api.MaxOps/2)
	check(t, "one more", code.Compile(parsed(t, strings.Repeat("$a", api.MaxOps/2))), 0)
	deep := strings.Repeat("$(or a,$(subst b,c,", api.MaxNest/2) + "x" + strings.Repeat("))", api.MaxNest/2)
	check(t, "deep", code.Compile(parsed(t, deep)), 3)
	checkCompiled(t, deep)
	deep = strings.Repeat("$(subst b,c,", api.MaxNest) + "x" + strings.Repeat(")", api.MaxNest)
	check(t, "deep on one pile", code.Compile(parsed(t, deep)), 2*api.MaxNest+1)
	checkCompiled(t, deep)
	check(t, "wide", code.Compile(parsed(t, "$(call a"+strings.Repeat(",b", 1000)+")")), 1001)
	check(t, "wide and lazy", code.Compile(parsed(t, "$(or a"+strings.Repeat(",b$c", 1000)+")")), 2)
}

func parsed(t *testing.T, s string) api.Node {
	t.Helper()
	n, err := syntax.Parse(s)
	if err != api.OK {
		t.Fatalf("%.200q: error %d", s, err)
	}
	return n
}

// What is compiled of nodes that are never read may not be, if table does not take its calls.
func TestNodesNeverRead(t *testing.T) {
	a := api.Node{Kind: api.Text, S: "a"}
	call := func(s string, l ...api.Node) api.Code {
		return code.Compile(api.Node{Kind: api.Call, S: s, L: l})
	}
	check(t, "no form", code.Compile(api.Node{}), 0)
	check(t, "no function", call("hop", a), 0)
	check(t, "a function of none", call("strip"), 0)
	check(t, "too many", call("strip", a, a), 0)
	check(t, "too few", call("if", a), 0)
	check(t, "a lazy function of none", call("or"), 0)
	check(t, "a Cat of none", code.Compile(api.Node{Kind: api.Cat}), 1)
}
