package fold

import (
	"strings"
	"testing"

	"wainwright/api"
)

// P14.1: a Cat of what becomes Texts.
func TestCatOfTexts(t *testing.T) {
	checkTexts(t, map[string]string{
		"$(strip a)$(strip b)":             "ab",
		"x$(strip  y )":                    "xy",
		"$(strip  y )z":                    "yz",
		"x$(strip  y )z":                   "xyz",
		" $(strip  y ) ":                   " y ",
		"$$$(strip $$)$$":                  "$$$",
		"a $(if ,b) c":                     "a  c",
		"$(if ,b)$(if ,c)":                 "",
		"$(if ,b)$(strip )$(if c,)":        "",
		"$(if ,b)c$(if ,d)":                "c",
		"$(words )$(words a)$(words a b)":  "012",
		"$(if a,x$(words )y)$(words )":     "x0y0",
		"a$(if b,c$(if d,e$(if f,g)h)i)j":  "aceghij",
		"$(strip a$(strip b$(strip c)d)e)": "abcde",
	})
}

// P14.1: Texts beside what is none become one up to it, and none is without bytes.
func TestCatOfSome(t *testing.T) {
	checkReads(t, map[string]string{
		"$(a)$(strip b)$(strip c)":                    "$(a)bc",
		"$(strip b)$(strip c)$(a)":                    "bc$(a)",
		"$(strip b)$(a)$(strip c)":                    "b$(a)c",
		"x$(strip y)$(a)z$(strip w)":                  "xy$(a)zw",
		"$(strip x)y$(a)$(b)$(strip z)w":              "xy$(a)$(b)zw",
		"$(a)$(if ,b)$(c)":                            "$(a)$(c)",
		"$(if ,b)$(a)$(if ,b)":                        "$(a)",
		"$(if ,b)$(if ,b)$(a:b=c)":                    "$(a:b=c)",
		"$(if ,b)$(info a)":                           "$(info a)",
		"x$(if ,b)$(a)$(if ,b)y":                      "x$(a)y",
		"$(a)x$(if ,b)y$(b)":                          "$(a)xy$(b)",
		"$(strip a)$(a)$(strip b)$(b)$(strip c)":      "a$(a)b$(b)c",
		"x$(info $(strip y))$(strip z)":               "x$(info y)z",
		"x$(strip $(a))y$(strip z)$(strip $(b))":      "x$(strip $(a))yz$(strip $(b))",
		"$(x$(strip y)$(a)$(if ,b)$(words )$(if ,b))": "$(xy$(a)0)",
	})
}

// P14.1: the same where each of a Cat's things is of any kind.
func TestCatOfAny(t *testing.T) {
	things := []struct{ s, folded string }{{"x", "x"}, {"$(strip  y )", "y"}, {"$(if ,z)", ""}, {"$(if a, )", " "}, {"$(a)", "$(a)"}, {"$(info b)", "$(info b)"}, {"$(if a,$(b:c=d))", "$(b:c=d)"}}
	for _, a := range things {
		for _, b := range things {
			for _, c := range things {
				for _, d := range things {
					checkReads(t, map[string]string{a.s + b.s + c.s + d.s: a.folded + b.folded + c.folded + d.folded})
				}
			}
		}
	}
}

// P14.1: a Cat within a Cat, as Fold makes it.
func TestCatInCat(t *testing.T) {
	a, b := refs("a"), refs("b")
	inner := catOf(text("x"), a, text("y"))
	for _, n := range []api.Node{
		catOf(inner, inner), catOf(text("x"), inner, text("y")), catOf(a, inner), catOf(inner, b), catOf(catOf(inner, b), a), catOf(inner, a, inner), catOf(catOf(catOf(a, b), b), b),
	} {
		check(t, n, n)
	}
	check(t, catOf(text("x"), catOf(a, calls("strip", " z "), b), text("y")), catOf(text("x"), catOf(a, text("z"), b), text("y")))
	check(t, catOf(text("x"), catOf(calls("strip", " z "), calls("words", "a")), text("y")), text("xz1y"))
	check(t, catOf(text("x"), catOf(calls("strip", " "), calls("if", "", "a")), a), catOf(text("x"), a))
	check(t, catOf(text("x"), catOf(calls("strip", " "), a), text("y")), catOf(text("x"), a, text("y")))
}

// What is of another number, or has Texts side by side, is no Cat that Parse makes: it is put right.
func TestOtherCats(t *testing.T) {
	a, b := refs("a"), text("b")
	for _, c := range []struct{ n, want api.Node }{
		{catOf(), text("")},
		{catOf(b), b},
		{catOf(a), a},
		{catOf(text("")), text("")},
		{catOf(text(""), text("")), text("")},
		{catOf(catOf()), text("")},
		{catOf(catOf(catOf(a))), a},
		{catOf(b, b), text("bb")},
		{catOf(b, text(""), b), text("bb")},
		{catOf(text(""), a), a},
		{catOf(a, catOf(), a), catOf(a, a)},
		{catOf(b, catOf(b, b), b), text("bbbb")},
		{catOf(b, b, a, b, b), catOf(text("bb"), a, text("bb"))},
		{catOf(catOf(b, a), catOf(b, b)), catOf(catOf(b, a), text("bb"))},
		{callOf("strip", catOf()), text("")},
		{callOf("if", catOf(), a, catOf(b)), b},
		{refTo(catOf(b)), refTo(b)},
		{callOf("words", catOf(text("x "), text("y"))), text("2")},
	} {
		check(t, c.n, c.want)
	}
	half := strings.Repeat("x", api.MaxText/2)
	long := catOf(text(half), text(half), text("y"), text(half), text(half))
	if got := Fold(long); !alike(got, catOf(text(half+half), text("y"+half), text(half))) || !alike(got, Fold(got)) {
		t.Errorf("Fold of %s: %s", show(long), show(got))
	}
}
