package fold

import (
	"testing"

	"wainwright/api"
)

// P14.1: an if whose condition has words, blanks alone, or no bytes.
func TestIf(t *testing.T) {
	for _, yes := range []string{"a", " a ", "a b", "0", "$$", "\r", "\x00", ".", "\n\tb", "$(strip  a )", "$(words )", "x$(if ,y)", "$(if ,a,b)", "$(findstring a,cab)"} {
		checkTexts(t, map[string]string{"$(if " + yes + ",b,c)": "b", "$(if " + yes + ",b)": "b", "$(if " + yes + ",)": "", "$(if " + yes + ",,c)": "", "$(if " + yes + ", b , c )": " b "})
	}
	for _, no := range []string{"", " ", "\t", "\n", " \t\n ", "$(if x, )", "$(strip )", "$(if ,a)", "$(if ,a,)", " $(if a, ) ", "$(findstring a,b)", "$(firstword  )", "$(notdir a/)"} {
		checkTexts(t, map[string]string{"$(if " + no + ",b,c)": "c", "$(if " + no + ",b)": "", "$(if " + no + ",b,)": "", "$(if " + no + ",,c)": "c", "$(if " + no + ", b , c )": " c ", "$(if " + no + ",b,c,d)": "c,d"})
	}
}

// P14.1: an if becomes what it chooses, whatever that is.
func TestIfOfOthers(t *testing.T) {
	for _, chosen := range []string{"$(b)", "$b", "$($(b))", "$(b:c=d)", "$(info b)", "$(error b)", "$(eval b=c)", "$(or b,c)", "$(if $(a),b,c)", "x$(b)", "$(b)$(c)", "x$(b)y$(c:d=e)z", "$(foreach i,$(a),$(i))", "$(word 0,a)"} {
		checkReads(t, map[string]string{
			"$(if a," + chosen + ")":                                        chosen,
			"$(if a," + chosen + ",$(x))":                                   chosen,
			"$(if a," + chosen + ",$(error x))":                             chosen,
			"$(if ,$(x)," + chosen + ")":                                    chosen,
			"$(if ,$(error x)," + chosen + ")":                              chosen,
			"$(if  ,$(eval x=y)$(x)," + chosen + "$(if ,b))":                chosen,
			"$(strip $(if $(words ),$(if ," + chosen + "," + chosen + ")))": "$(strip " + chosen + ")",
			"$(if $(if a," + chosen + "),b,c)":                              "$(if " + chosen + ",b,c)",
			"$(x$(if ,b))$(if a," + "$(y)" + ")":                            "$(x)$(y)",
		})
	}
	checkReads(t, map[string]string{
		"$(if a,$(strip $(b)$(words )))":        "$(strip $(b)0)",
		"$(if ,b,$(a:$(strip b)=$(if ,c)))":     "$(a:b=)",
		"$(if a,$(a)$(if ,b))":                  "$(a)",
		"$(if a,$(strip $(b)),c)$(if ,b,$(c))d": "$(strip $(b))$(c)d",
	})
}

// P14.1: an if whose condition is not known stays, with its arguments folded.
func TestIfOfUnknown(t *testing.T) {
	for _, condition := range []string{"$(a)", "$a", "a$(a)", "$(a:b=c)", "$(info a)", "$(or a)", "$(or ,)", "$(and ,a)", "$(word 1,a)", "$(wildcard a)", "$(strip $(a))", "$(if $(a),b,c)", "$(value a)", "$(call a)"} {
		checkReads(t, map[string]string{
			"$(if " + condition + ",$(strip  b ))":                  "$(if " + condition + ",b)",
			"$(if " + condition + ",$(strip  b ),$(words ))":        "$(if " + condition + ",b,0)",
			"$(if " + condition + "$(if ,x),$(if ,$(x),$(b)),$(c))": "$(if " + condition + ",$(b),$(c))",
		})
	}
}

// P14.1: an if within a Cat: a Cat that it chooses stands there as a Cat.
func TestIfInCat(t *testing.T) {
	a, b := refs("a"), refs("b")
	for s, want := range map[string]api.Node{
		"x$(if a,y$(b)z)w":                 catOf(text("x"), catOf(text("y"), b, text("z")), text("w")),
		"$(if a,$(a)$(b))$(a)":             catOf(catOf(a, b), a),
		"$(a)$(if ,x,$(a)$(b))":            catOf(a, catOf(a, b)),
		"$(if a,$(a)$(b))":                 catOf(a, b),
		"$(if a,$(a)$(b))$(if ,b)":         catOf(a, b),
		"$(if ,b)$(if a,x$(b))$(strip )":   catOf(text("x"), b),
		"$(if a,$(a)$(b))$(if b,$(a)$(b))": catOf(catOf(a, b), catOf(a, b)),
		"$(if a,$(if ,c,x$(b))$(b))y":      catOf(catOf(catOf(text("x"), b), b), text("y")),
		"$(if a,$(if ,c,x$(b)))y":          catOf(catOf(text("x"), b), text("y")),
		"x$(if a,$(b))y":                   catOf(text("x"), b, text("y")),
		"x$(if a,y)z":                      text("xyz"),
		"x$(if ,y)z":                       text("xz"),
		"$(a)$(if ,y)$(b)":                 catOf(a, b),
		"$(strip $(if a,$(a)$(b)))$(a)":    catOf(callOf("strip", catOf(a, b)), a),
		"$(a$(if b,$(a)$(b)))":             refTo(catOf(text("a"), catOf(a, b))),
	} {
		checkText(t, s, want)
	}
}
