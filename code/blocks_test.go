package code

import (
	"strings"
	"testing"

	"wainwright/api"
)

// letters is a code made of words: 'x' pushes x, get, sub, join2, strip1 .. are themselves, if:1:2 is lazy; / stands between blocks.
func letters(s string) api.Code {
	var c api.Code
	for _, b := range strings.Split(s, "/") {
		var l []api.Op
		for _, w := range strings.Fields(b) {
			l = append(l, letter(w))
		}
		c.Blocks = append(c.Blocks, l)
	}
	return c
}

func letter(w string) api.Op {
	if strings.HasPrefix(w, "'") {
		return push(strings.Trim(w, "'"))
	}
	if name, rest, ok := strings.Cut(w, ":"); ok {
		o := lazy(name)
		for _, x := range strings.Split(rest, ":") {
			o.Blocks = append(o.Blocks, digits(x))
		}
		return o
	}
	switch name := strings.TrimRight(w, "0123456789"); name {
	case "get":
		return get()
	case "sub":
		return subGet()
	case "cat":
		return join(digits(w[3:]))
	default:
		return do(name, digits(w[len(name):]))
	}
}

func digits(s string) int {
	n := 0
	for _, d := range s {
		n = n*10 + int(d-'0')
	}
	return n
}

// P12.1: which numbers blocks have, and in which order they are made.
func TestNumbers(t *testing.T) {
	for s, want := range map[string]string{
		// Side by side: each has the next numbers, and is made ahead of what stands behind it.
		"$(if a,b)$(if c,d)":                         "if:1:2 if:3:4 cat2 / 'a' / 'b' / 'c' / 'd'",
		"$(or a)$(and b)$(or c)":                     "or:1 and:2 or:3 cat3 / 'a' / 'b' / 'c'",
		"$(or $(or a))$(or b)":                       "or:1 or:3 cat2 / or:2 / 'a' / 'b'",
		"$(or $(or a))x$(or $(or b))":                "or:1 'x' or:3 cat3 / or:2 / 'a' / or:4 / 'b'",
		"$(if $(or a),$(or b))$(if $(or c),$(or d))": "if:1:2 if:5:6 cat2 / or:3 / or:4 / 'a' / 'b' / or:7 / or:8 / 'c' / 'd'",
		// Within one another: those within the first argument go ahead of those within the second.
		"$(or $(or $(or a)))":                             "or:1 / or:2 / or:3 / 'a'",
		"$(and $(or a,b),$(or c,d))":                      "and:1:2 / or:3:4 / or:5:6 / 'a' / 'b' / 'c' / 'd'",
		"$(and $(or $(and a,b),c),$(or d,e))":             "and:1:2 / or:3:4 / or:7:8 / and:5:6 / 'c' / 'a' / 'b' / 'd' / 'e'",
		"$(and $(or $(and $(or a))),$(or b))":             "and:1:2 / or:3 / or:6 / and:4 / or:5 / 'a' / 'b'",
		"$(and a,$(or b),c,$(or d))":                      "and:1:2:3:4 / 'a' / or:5 / 'c' / or:6 / 'b' / 'd'",
		"$(if $(and a,b),$(or c),d)":                      "if:1:2:3 / and:4:5 / or:6 / 'd' / 'a' / 'b' / 'c'",
		"$(and $(or a)$(or b),$(or c)$(or d))":            "and:1:2 / or:3 or:4 cat2 / or:5 or:6 cat2 / 'a' / 'b' / 'c' / 'd'",
		"$(and $(or $(or a))$(or b),c)":                   "and:1:2 / or:3 or:5 cat2 / 'c' / or:4 / 'a' / 'b'",
		"$(foreach x,$(if a,b),$(let y,c,d))":             "foreach:1:2:3 / 'x' / if:4:5 / let:6:7:8 / 'a' / 'b' / 'y' / 'c' / 'd'",
		"$(foreach $(or a),$(or b),$(or c))":              "foreach:1:2:3 / or:4 / or:5 / or:6 / 'a' / 'b' / 'c'",
		"$(let $(or a),$(or b),$(or c))":                  "let:1:2:3 / or:4 / or:5 / or:6 / 'a' / 'b' / 'c'",
		"$(intcmp 1,$(or a),b,$(or c),d)":                 "intcmp:1:2:3:4:5 / '1' / or:6 / 'b' / or:7 / 'd' / 'a' / 'c'",
		"$(or $(let a,$(or b,c),$(intcmp d,e)),$(and f))": "or:1:2 / let:3:4:5 / and:10 / 'a' / or:6:7 / intcmp:8:9 / 'b' / 'c' / 'd' / 'e' / 'f'",
		// Within what is not lazy.
		"$(strip $(or a))":                    "or:1 strip1 / 'a'",
		"$(subst $(or a),b,$(or c))":          "or:1 'b' or:2 subst3 / 'a' / 'c'",
		"$(subst $(or $(or a)),b,$(or c))":    "or:1 'b' or:3 subst3 / or:2 / 'a' / 'c'",
		"$(call $(or a),$(and b,c),$(or d))":  "or:1 and:2:3 or:4 call3 / 'a' / 'b' / 'c' / 'd'",
		"$($(or a):$(or b)=$(or c))":          "or:1 or:2 or:3 sub / 'a' / 'b' / 'c'",
		"$($(or a,b))":                        "or:1:2 get / 'a' / 'b'",
		"x$($(or a):b=$(or $(and c),d))":      "'x' or:1 'b' or:2:3 sub cat2 / 'a' / and:4 / 'd' / 'c'",
		"$(words $(sort $(if a,b)))$(if c,d)": "if:1:2 sort1 words1 if:3:4 cat2 / 'a' / 'b' / 'c' / 'd'",
		// And these within what is lazy.
		"$(or $(strip $(or a)))":                                "or:1 / or:2 strip1 / 'a'",
		"$(if $(strip $(if a,b)),c)":                            "if:1:2 / if:3:4 strip1 / 'c' / 'a' / 'b'",
		"$(and $(join $(or a),$(or b)),$(sort $(or c)))":        "and:1:2 / or:3 or:4 join2 / or:5 sort1 / 'a' / 'b' / 'c'",
		"$(and $(strip $(or $(sort $(or a)))),$(dir $(or b)))":  "and:1:2 / or:3 strip1 / or:5 dir1 / or:4 sort1 / 'a' / 'b'",
		"$(strip $(or $(sort $(and a,$(or b))),c))$(or d)":      "or:1:2 strip1 or:6 cat2 / and:3:4 sort1 / 'c' / 'a' / or:5 / 'b' / 'd'",
		"$(call f,$(or $(call g,$(and a)),$(call h,$(and b))))": "'f' or:1:2 call2 / 'g' and:3 call2 / 'h' and:4 call2 / 'a' / 'b'",
	} {
		check(t, parsed(t, s), letters(want))
	}
}

// P12.1: a Cat within a Cat, and what else may be made by hand: as many as there are, no more and no less.
func TestByHand(t *testing.T) {
	a, b, c := text("a"), text("b"), text("c")
	check(t, catOf(catOf(a, b), c), letters("'a' 'b' cat2 'c' cat2"))
	check(t, catOf(a, catOf(b, catOf(c, a))), letters("'a' 'b' 'c' 'a' cat2 cat2 cat2"))
	check(t, callOf("or", catOf(callOf("or", a), catOf(callOf("or", b), c))), letters("or:1 / or:2 or:3 'c' cat2 cat2 / 'a' / 'b'"))
	check(t, catOf(a), letters("'a' cat1"))
	check(t, catOf(), letters("cat0"))
	check(t, callOf("strip"), letters("strip0"))
	check(t, callOf("hop", a, b), letters("'a' 'b' hop2"))
	check(t, callOf("", a), codeOf(block(push("a"), do("", 1))))
	check(t, callOf("If", a, b), letters("'a' 'b' If2"))
	check(t, callOf("if", a), letters("if:1 / 'a'"))
	check(t, callOf("or"), codeOf(block(lazy("or"))))
	check(t, catOf(callOf("or"), callOf("or", a), callOf("and")), codeOf(block(lazy("or"), lazy("or", 1), lazy("and"), join(3)), block(push("a"))))
	check(t, api.Node{Kind: api.Text, S: "a", L: []api.Node{}}, letters("'a'"))
}

// P12.1: what is not named is zero, whatever a node has that plays no part.
func TestNotNamed(t *testing.T) {
	l := []api.Node{text("a")}
	check(t, api.Node{Kind: api.Ref, S: "x", L: l}, letters("'a' get"))
	check(t, api.Node{Kind: api.Cat, S: "x", L: l}, letters("'a' cat1"))
	check(t, api.Node{Kind: api.Sub, S: "x", L: []api.Node{l[0], l[0], l[0]}}, letters("'a' 'a' 'a' sub"))
}

// P12.1: blocks without number, side by side and within one another.
func TestManyBlocks(t *testing.T) {
	const many = 3000
	s := strings.Repeat("$(or a,b)", many)
	want := codeOf(block())
	for i := range many {
		want.Blocks[0] = append(want.Blocks[0], lazy("or", 2*i+1, 2*i+2))
		want.Blocks = append(want.Blocks, block(push("a")), block(push("b")))
	}
	want.Blocks[0] = append(want.Blocks[0], join(many))
	check(t, parsed(t, s), want)
	s = "$(or " + strings.Repeat("$(or a),", many) + ")"
	want = codeOf(block(lazy("or")))
	for i := range many + 1 {
		want.Blocks[0][0].Blocks = append(want.Blocks[0][0].Blocks, i+1)
		want.Blocks = append(want.Blocks, block(lazy("or", i+many+2)))
	}
	want.Blocks[many+1] = block(push(""))
	for range many {
		want.Blocks = append(want.Blocks, block(push("a")))
	}
	check(t, parsed(t, s), want)
	s = strings.Repeat("$(and ", api.MaxNest) + "x" + strings.Repeat(",y)", api.MaxNest)
	want = codeOf(block(lazy("and", 1, 2)))
	for i := range api.MaxNest - 1 {
		want.Blocks = append(want.Blocks, block(lazy("and", 2*i+3, 2*i+4)), block(push("y")))
	}
	want.Blocks = append(want.Blocks, block(push("x")), block(push("y")))
	check(t, parsed(t, s), want)
}
