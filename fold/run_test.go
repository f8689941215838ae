package fold

import (
	"maps"
	"math/rand"
	"slices"
	"strconv"
	"strings"
	"testing"

	"wainwright/api"
	"wainwright/code"
	"wainwright/sound"
	"wainwright/syntax"
	"wainwright/table"
)

// recursive and simple are variables by names and values that stand in turn.
func recursive(l ...string) map[string]api.Var {
	vars := map[string]api.Var{}
	for i := 0; i < len(l); i += 2 {
		vars[l[i]] = api.Var{Name: l[i], Value: l[i+1], Flavor: api.Recursive, Origin: api.File}
	}
	return vars
}

func simple(l ...string) map[string]api.Var {
	vars := recursive(l...)
	for name, v := range vars {
		v.Flavor = api.Simple
		vars[name] = v
	}
	return vars
}

// worlds is variables that nodes are run with.
func worlds() []map[string]api.Var {
	return []map[string]api.Var{
		{},
		simple("a", "1", "b", "x/y.c a.c", "c", " \t", "d", "b", "i", "2", "1", "3"),
		recursive("a", "<$(strip  $(1)$(b) )>", "b", "$(if $(info b),x,$(words y z))$(c)", "c", "$(if ,$(c),$(d)2)", "d", "1"),
		recursive("a", "$(c)", "b", "$(if a,$(info b)$(error b))", "c", "$(strip  $(a) )", "d", "$(if $(b),$(if"),
		recursive("a", "$(eval a=$(if ,x)$(words $(a) x))$(a)", "b", "$(a)$(value a)", "c", "$(d)$(words )", "d", "$(foreach i,$(0) $(1) 2,$(if ,a,$(i)$(if a,))$(2))"),
	}
}

// greatWorlds is those with values that have not much room.
func greatWorlds() []map[string]api.Var {
	half := strings.Repeat("y", api.MaxText/2)
	return []map[string]api.Var{
		simple("a", half, "b", half+"z", "c", "", "d", " "),
		recursive("a", half+"$(if ,x)"+half, "b", half+"$(strip  z)"+half, "c", "$(info c)$(a)", "d", "$(b:y=$(info d)z)"),
	}
}

// checkRun asks that a node and what it is folded to say the same, in each world, whether texts of variables are folded or not; it tells how many of the worlds have no error.
func checkRun(t *testing.T, n api.Node, worlds []map[string]api.Var) int {
	t.Helper()
	fine := 0
	folded := checked(t, n)
	if sound.Check(code.Compile(n)) && !sound.Check(code.Compile(folded)) {
		t.Errorf("%.300s, folded %.300s: its code may not be", show(n), show(folded))
	}
	for at, vars := range worlds {
		want := machineOf(vars, false, api.MaxSteps).run(n)
		for _, got := range []ended{machineOf(vars, false, api.MaxSteps).run(folded), machineOf(vars, true, api.MaxSteps).run(folded)} {
			if !sameEnd(got, want) || got.steps > want.steps {
				t.Fatalf("%.300s, folded %.300s, in world %d: %s, want %s", show(n), show(folded), at, told(got), told(want))
			}
		}
		checkFewer(t, n, folded, vars, max(want.steps-1, 0))
		if want.err == api.OK {
			fine++
		}
	}
	return fine
}

// checkFewer asks that with fewer steps what finishes is the same, and that no run finishes less.
func checkFewer(t *testing.T, n, folded api.Node, vars map[string]api.Var, steps int) {
	t.Helper()
	want := machineOf(vars, false, steps).run(n)
	for _, folds := range []bool{false, true} {
		got := machineOf(vars, folds, steps).run(folded)
		if want.err != api.ErrSteps && !sameEnd(got, want) || got.steps > steps {
			t.Fatalf("%.300s, folded %.300s, with %d steps: %s, want %s", show(n), show(folded), steps, told(got), told(want))
		}
	}
}

func sameEnd(a, b ended) bool {
	return a.value == b.value && a.err == b.err && slices.Equal(a.said, b.said) && maps.Equal(a.vars, b.vars)
}

// told is what a run answers, for a test's message.
func told(e ended) string {
	return show(text(e.value)) + ", error " + strconv.Itoa(int(e.err)) + ", " + strconv.Itoa(e.steps) + " steps, said " + strconv.Quote(strings.Join(e.said, "; "))
}

// P14.1 and P14.2: what is folded says the same, by hand.
func TestRuns(t *testing.T) {
	half := xs(api.MaxText / 2)
	for _, s := range []string{
		"", "a", "$(a)", "$(strip $(a))", "$(a)$(b)$(c)$(d)", "$(if $(a),$(b),$(c))", "$(if a,$(b),$(c))", "$(if ,$(b),$(c))", "x$(if a,y$(b)z)w$(c)", "$(info $(strip  a ))$(words $(info b) c)$(d)",
		"$(if a,$(a)$(b))$(info m)", "$(if a,$(b)$(a))$(error m)", "$(if a,$(a)y$(a))$(warning m)$(error n)", "$(if a," + half + "$(a)" + half + ")$(info m)", half + "$(strip  y )$(info m)" + half, half + "$(if ,y)" + half + "x$(info m)", half + "$(if ,$(info m))" + half + "x$(info m)$(error n)",
		xs(api.MaxText) + "$(strip y)$(info m)", "$(info m)" + xs(api.MaxText) + "$(strip y)$(error n)", "$(if " + xs(api.MaxText+1) + ",$(info m),$(error n))", "$(if a," + xs(api.MaxText+1) + ")", "$(info m)$(strip " + xs(api.MaxText+1) + ")$(info n)", "$(if $(info m)a," + xs(api.MaxText+1) + ",b)",
		"$(words $(subst x,yy," + half + "x))$(info m)", "$(words $(subst x,yy," + half + "))$(info m)", "$(info m)$(addsuffix y," + xs(api.MaxText) + ")$(error n)", "$(strip " + xs(api.MaxText) + ")$(a)$(info m)",
		"$(call f,$(if a,b))", "$(call a,$(strip  x ),$(if ,$(error n)))", "$(foreach i,$(strip  1  2 ),<$(i)$(if a,$(i))>)", "$(foreach $(if ,i),a,b)", "$(let i j,$(sort 2 1 3),$(i)$(if a,$(j)))", "$(intcmp $(words a),1,$(if a,$(b)),$(strip  c ))", "$(eval a=$(if ,b)c)$(a)", "$(eval $(strip ))$(a)", "$(or $(if ,a),$(strip ),$(a))", "$(and $(if a,b),$(info m))",
		"$(wildcard $(strip  *.c  *))", "$(word $(words ),a)", "$(word $(words a),$(sort c b))", "$(wordlist 1,$(words a b),$(a) x $(if a,y))", "$($(strip  a ):$(if a,%.c)=$(if ,x)%.o)", "$(value $(strip  a ))", "$(origin $(if ,b,a))$(flavor $(if a,b))",
	} {
		checkRun(t, parsed(t, s), append(worlds(), greatWorlds()...))
	}
}

// P14.1 and P14.2: a limit of steps that is just as great as a run needs.
func TestSteps(t *testing.T) {
	for s, steps := range map[string][2]int{"$(strip  a )": {2, 1}, "x$(words a b)": {4, 1}, "$(if a,b)": {3, 1}, "$(if ,b)": {2, 1}, "$(if a,$(b))": {4, 2}, "$(if $(a),b,$(strip  c ))": {5, 4}, "$(a)$(if ,b)$(c)": {7, 5}, "$(a)$(if ,b)": {5, 2}, "x$(if a,y$(b)z)w": {10, 8}, "$(strip $(sort $(words a) $(words b)))": {8, 1}} {
		n := parsed(t, s)
		for at, n := range []api.Node{n, Fold(n)} {
			if got := machineOf(nil, true, steps[at]).run(n); got.err != api.OK || got.steps != steps[at] {
				t.Errorf("%s: %s, want %d steps", s, told(got), steps[at])
			}
			if got := machineOf(nil, true, steps[at]-1).run(n); got.err != api.ErrSteps {
				t.Errorf("%s: %s, want error %d", s, told(got), api.ErrSteps)
			}
		}
	}
}

// allTexts calls see with every text of at most most of the pieces.
func allTexts(pieces []string, most int, see func(string)) {
	see("")
	if most > 0 {
		for _, p := range pieces {
			allTexts(pieces, most-1, func(s string) { see(p + s) })
		}
	}
}

// P14.1 and P14.2, over all short texts.
func TestShortTexts(t *testing.T) {
	t.Parallel()
	for _, pieces := range [][]string{
		{"$(strip ", "$(if ", ")", ",", "$a", " ", "x"},
		{"$(if ", "$(info ", ")", ",", "$b", "x"},
		{"$(words ", "$(subst ", "$(", ":y=", ")", ",", "x"},
		{"$(addsuffix ", "$(or ", "$c", ")", ",", " ", "y"},
	} {
		t.Run(strings.Join(pieces, ""), func(t *testing.T) {
			t.Parallel()
			worlds, number, fine := worlds(), 0, 0
			allTexts(pieces, 6, func(s string) {
				if n, err := syntax.Parse(s); err == api.OK {
					number++
					fine += checkRun(t, n, worlds)
				}
			})
			if number < 10000 || fine < 3*number {
				t.Errorf("just %d of the texts are read, %d runs have no error", number, fine)
			}
		})
	}
}

// grower makes texts; what r says tells which ones.
type grower struct {
	r      *rand.Rand
	pieces []string
	names  []string
}

func (g grower) one(l []string) string { return l[g.r.Intn(len(l))] }

// row is things side by side, each of at most so many levels more.
func (g grower) row(levels int) string {
	var s strings.Builder
	for range 1 + g.r.Intn(3)*g.r.Intn(3) {
		s.WriteString(g.thing(levels))
	}
	return s.String()
}

func (g grower) thing(levels int) string {
	if levels == 0 || g.r.Intn(4) == 0 {
		return g.one(g.pieces)
	}
	switch g.r.Intn(8) {
	case 0:
		return "$(" + g.row(levels-1) + ")"
	case 1:
		return "$(" + g.one([]string{"a", "b", "c", "d"}) + ")"
	case 2:
		return "$(" + g.one([]string{"a", "b"}) + ":" + g.row(levels-1) + "=" + g.row(levels-1) + ")"
	case 3:
		return "$(if " + g.one([]string{"", " ", "a", g.row(levels - 1)}) + "," + g.row(levels-1) + g.one([]string{"", ",", "," + g.row(levels-1)}) + ")"
	}
	name := g.one(g.names)
	info, _ := table.Find(name)
	l := make([]string, info.Min+g.r.Intn(max(info.Max, info.Min+2)-info.Min+1))
	for i := range l {
		l[i] = g.row(levels - 1)
	}
	return "$(" + name + " " + strings.Join(l, ",") + ")"
}

// manyNames is all functions' names, those that may be known ahead more often.
func manyNames() []string {
	l := table.Names()
	for range 3 {
		l = append(l, "if", "info", "or")
		for name := range musts() {
			l = append(l, name)
		}
	}
	slices.Sort(l)
	return l
}

// P14.1 and P14.2, over many made texts; they are the same each time.
func TestMadeTexts(t *testing.T) {
	t.Parallel()
	worlds := worlds()
	g := grower{rand.New(rand.NewSource(14)), []string{"", "", " ", "  ", "a", "b", "x", "a b", " b  a ", "1", "0", "x/y.c", "%", "%.c", "/", "$$", "$a", "$1", "i", ".", "a=b"}, manyNames()}
	number, fine := 0, 0
	for range 8000 {
		if n, err := syntax.Parse(g.row(g.r.Intn(5))); err == api.OK {
			number++
			fine += checkRun(t, n, worlds)
		}
	}
	if number < 8000 || fine < 3*number {
		t.Errorf("just %d of the texts are read, %d runs have no error", number, fine)
	}
}

// P14.1 and P14.2, over texts with pieces so long that a few of them together are more than a value may have.
func TestMadeGreatTexts(t *testing.T) {
	t.Parallel()
	worlds := greatWorlds()
	names := []string{"strip", "if", "if", "firstword", "lastword", "sort", "notdir", "info", "error", "or", "call", "suffix", "words", "addsuffix", "addprefix", "subst", "subst"}
	g := grower{rand.New(rand.NewSource(41)), []string{"", " ", "a", "b", "/", "$a", "$b", xs(api.MaxText / 2), strings.Repeat("z", api.MaxText/2-1), xs(api.MaxText/3 + 1), xs(api.MaxText), xs(api.MaxText + 1), strings.Repeat(" ", api.MaxText/2) + "w"}, names}
	number, fine := 0, 0
	for range 800 {
		if n, err := syntax.Parse(g.row(g.r.Intn(4))); err == api.OK && !great(n) {
			number++
			fine += checkRun(t, n, worlds)
		}
	}
	if number < 600 || fine < number/2 {
		t.Errorf("just %d of the texts are read, %d runs have no error", number, fine)
	}
}

// great tells whether a run might make texts that there is no room for, by subst: of those the tests have too few steps to count.
func great(n api.Node) bool {
	if n.Kind == api.Call && n.S == "subst" && (n.L[0].Kind != api.Text || len(n.L[0].S) == 1) {
		return true
	}
	return slices.ContainsFunc(n.L, great)
}
