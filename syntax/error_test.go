package syntax

import (
	"strings"
	"testing"

	"wainwright/api"
)

// nest is a text of so many references within one another, about another text.
func nest(n int, ahead, within, behind string) string {
	return strings.Repeat(ahead, n) + within + strings.Repeat(behind, n)
}

// P10.1: a reference that does not end.
func TestNoEnd(t *testing.T) {
	for _, s := range []string{
		"$(", "${", "$(a", "${a", "$(a}", "${a)", "x$(", "$a$(", "$$$(", "a$(b)$(c",
		"$(a(b)", "${a{b}", "$((", "$(()", "${({)}", "$($()", "${${}", "$($(a)", "$(a${b)",
		"$(${a)}", "$(strip a", "$(strip (a)", "$(strip ${a)", "$(or a,${b,c)", "$(or ${a,b})",
		"$(subst ${,},b,c)", "$(a:b=c", "$(a:${b=c)", "$(${a:b=c)", "$(\x00", "$(\xff",
	} {
		checkError(t, s, api.ErrForm)
	}
}

// P10.1: a call of too few arguments.
func TestTooFew(t *testing.T) {
	for _, s := range []string{
		"$(subst a,b)", "$(subst a)", "$(subst )", "${subst a,b}", "$(if a)", "$(if )", "$(if (a,b))",
		"${if {a,b}}", "$(if $(a,b))", "$(word 1)", "$(let a,b)", "$(intcmp 1)", "$(foreach a,(b,c))",
		"a$(if b)c", "$(a$(if b)c)", "$(a:$(if b)=c)", "$(a:b=$(if c))", "$($(if a):b=c)", "$(if a,$(if b))",
		"$(or a,b,$(if c))", "$(if a:b=c)", "$(if\ta)", "$(if\n\n)",
	} {
		checkError(t, s, api.ErrFew)
	}
}

// P10.1: MaxNest references within one another may be, one more may not.
func TestTooDeep(t *testing.T) {
	for _, c := range []struct{ ahead, behind string }{
		{"$(", ")"}, {"${", "}"}, {"$(a", "b)"}, {"$$$(", "$$)"}, {"$(strip ", ")"}, {"${strip\n", "}"}, {"$(if a,", ")"}, {"$(if ", ",b)"},
		{"$(if a,b,", ",d)"}, {"$(or a,", ",b)"}, {"$(", ":a=b)"}, {"$(a:", "=b)"}, {"$(a:b=", ")"}, {"$(a$b", "$c)"}, {"$(${", "})"},
	} {
		each := strings.Count(c.ahead, "$(") + strings.Count(c.ahead, "${")
		n := api.MaxNest / each
		for _, within := range []string{"", "x", "$", "$$", "$x"} {
			if s := nest(n, c.ahead, within, c.behind); !parses(s) {
				t.Errorf("%q is not too deep", s)
			}
		}
		checkError(t, nest(n, c.ahead, "$(x)", c.behind), api.ErrDeep)
		checkError(t, nest(n, c.ahead, "$()", c.behind), api.ErrDeep)
		checkError(t, nest(n, c.ahead, "$(strip x)", c.behind), api.ErrDeep)
		checkError(t, nest(n, c.ahead, "$(a:b=c)", c.behind), api.ErrDeep)
		checkError(t, nest(n+1, c.ahead, "", c.behind), api.ErrDeep)
		checkError(t, nest(n+1, c.ahead, "x", c.behind), api.ErrDeep)
		checkError(t, nest(1000, c.ahead, "x", c.behind), api.ErrDeep)
	}
}

func parses(s string) bool {
	_, err := Parse(s)
	return err == api.OK
}

// P10.1: what is MaxNest deep is all there; references side by side are not within one another.
func TestDeepest(t *testing.T) {
	want := ref("x")
	for range api.MaxNest - 1 {
		want = refTo(want)
	}
	checkParse(t, nest(api.MaxNest, "$(", "x", ")"), want)
	if s := strings.Repeat(nest(api.MaxNest, "$(", "x", ")"), 3); !parses(s) {
		t.Errorf("%q is not too deep", s)
	}
	if s := strings.Repeat("$(a)", 1000); !parses(s) {
		t.Errorf("%d references side by side", 1000)
	}
	if s := nest(1000, "(", "$(x)", ")"); !parses(s) {
		t.Error("brackets without a dollar sign are no references")
	}
}

// at is a text that stands so many references deep.
func at(deep int, s string) string { return nest(deep, "$(", s, ")") }

// P10.1: of two errors the first from the front on counts, of a reference that ahead of those within it.
func TestFirstError(t *testing.T) {
	deep := at(api.MaxNest+1, "")
	for _, c := range []struct {
		name, s string
		want    api.Errno
	}{
		{"few, then no end", "$(subst a)$(", api.ErrFew},
		{"few, then too deep", "$(if a)" + deep, api.ErrFew},
		{"no end, then few", "$($(if a)", api.ErrForm},
		{"no end of another kind, then few", "$(${)$(if a)", api.ErrForm},
		{"no end of another kind, then too deep", "$(${)" + deep, api.ErrForm},
		{"too deep, then no end", deep + "$(", api.ErrDeep},
		{"too deep, then few", deep + "$(if a)", api.ErrDeep},
		{"too deep, then few, in one call", "$(or " + at(api.MaxNest, "") + ",$(if a))", api.ErrDeep},
		{"few, then too deep, in one call", "$(or $(if a)," + deep + ")", api.ErrFew},
		{"few, then no end, in one call", "$(or $(if a),${)", api.ErrFew},
		{"no end, then few, in one call", "$(or ${,$(if a))", api.ErrForm},
		{"few, then no end, in a name", "$($(if a):${=b)", api.ErrFew},
		{"few, then no end, in a substitution's name and to", "$($(if a):b=${)", api.ErrFew},
		{"no end, then few, in a substitution's from and to", "$(a:$(b}${=$(if c))", api.ErrForm},
		{"few, then too deep, in a substitution's from and to", "$(a:$(if b)=" + deep + ")", api.ErrFew},
		{"too deep, then few, in a substitution's from and to", "$(a:" + deep + "=$(if b))", api.ErrDeep},
		{"few, and few within", "$(if $(if a))", api.ErrFew},
		{"few, and no end within", "$(if ${)", api.ErrFew},
		{"few, and too deep within", "$(if " + deep + ")", api.ErrFew},
		{"no end, and too deep within", "$(" + deep, api.ErrForm},
		{"no end, and few within", "${$(if a)", api.ErrForm},
		{"few each, and too deep at the end", nest(api.MaxNest+1, "$(if ", "", ")"), api.ErrFew},
		{"too deep, and few", at(api.MaxNest, "$(if a)"), api.ErrDeep},
		{"too deep, and few, in a call", nest(api.MaxNest, "$(or ", "$(subst a,b)", ")"), api.ErrDeep},
		{"too deep, and few within", at(api.MaxNest, "$($(if a))"), api.ErrDeep},
		{"too deep, and no end within", at(api.MaxNest, "$(${)"), api.ErrDeep},
		{"as deep as may be, and few", at(api.MaxNest-1, "$(if a)"), api.ErrFew},
		{"as deep as may be, and no end", at(api.MaxNest-1, "${"), api.ErrForm},
		{"too deep, and no end", at(api.MaxNest, "${"), api.ErrForm},
		{"no end, ahead of a plain text", "$(" + strings.Repeat("a", 100), api.ErrForm},
	} {
		if n, err := Parse(c.s); err != c.want || n.Kind != 0 || n.S != "" || n.L != nil {
			t.Errorf("%s: %s, %d, want error %d", c.name, show(n), err, c.want)
		}
	}
}
