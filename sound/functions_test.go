package sound

import (
	"slices"
	"strconv"
	"strings"
	"testing"

	"wainwright/api"
	"wainwright/table"
)

// function is what the chapter of the functions says of one.
type function struct {
	name        string
	least, most int // most 0: any number
	lazy        bool
}

// functions is all of them, made once.
var functions = chapter()

// chapter is all of them, as that chapter has them.
func chapter() []function {
	var l []function
	for _, row := range []struct {
		names       string
		least, most int
		lazy        bool
	}{
		{"strip sort words firstword lastword dir notdir suffix basename abspath wildcard", 1, 1, false},
		{"findstring filter filter-out word addsuffix addprefix join", 2, 2, false},
		{"subst patsubst wordlist", 3, 3, false},
		{"if", 2, 3, true},
		{"or and", 1, 0, true},
		{"intcmp", 2, 5, true},
		{"foreach let", 3, 3, true},
		{"call", 1, 0, false},
		{"eval value origin flavor error warning info", 1, 1, false},
	} {
		for _, name := range strings.Fields(row.names) {
			l = append(l, function{name, row.least, row.most, row.lazy})
		}
	}
	return l
}

// fits tells whether a function takes so many arguments.
func (f function) fits(arguments int) bool {
	return arguments >= f.least && (f.most == 0 || arguments <= f.most)
}

// checkArguments asks for a function with so many arguments, as a Do and as a Lazy.
func checkArguments(t *testing.T, f function, n int) {
	t.Helper()
	name := f.name + " of " + strconv.Itoa(n)
	asDo, asLazy := 0, 0
	if f.fits(n) && f.lazy {
		asLazy = 1
	} else if f.fits(n) {
		asDo = max(n, 1)
	}
	a := pushes(1)
	check(t, name+", Do", codeOf(pushes(n, do(f.name, n))), asDo)
	check(t, name+", Do with a block behind", codeOf(pushes(n, do(f.name, n)), a), asDo)
	check(t, name+", Lazy of one block", codeOf(block(lazy(f.name, slices.Repeat([]int{1}, n)...)), a), asLazy)
	l, own := codeOf(nil), make([]int, n)
	for i := range own {
		own[i] = i + 1
		l.Blocks = append(l.Blocks, a)
	}
	l.Blocks[0] = block(lazy(f.name, own...))
	check(t, name+", Lazy of a block each", l, asLazy)
	slices.Reverse(own)
	check(t, name+", Lazy of a block each, the last one first", l, asLazy)
	mixed := lazy(f.name, own...)
	mixed.N = n
	l.Blocks[0] = pushes(n, mixed)
	if n > 0 {
		check(t, name+", Lazy with N too", l, 0)
		mixed.Kind = api.Do
		l.Blocks[0] = pushes(n, mixed)
		check(t, name+", Do with Blocks too", l, 0)
	}
}

// P13.1: each function, lazy or not, as a Do and as a Lazy, with as many arguments as it takes, fewer and more.
func TestFunctions(t *testing.T) {
	var names []string
	for _, f := range functions {
		names = append(names, f.name)
		for n := range 9 {
			checkArguments(t, f, n)
		}
		for _, n := range []int{20, 255, 256, 257, 1000} {
			checkArguments(t, f, n)
		}
	}
	slices.Sort(names)
	if !slices.Equal(names, table.Names()) {
		t.Errorf("the functions are %q", table.Names())
	}
}

// P13.1: those that take any number, with as many as there may be.
func TestMostArguments(t *testing.T) {
	for _, f := range functions {
		asDo, asLazy := 0, 0
		if f.most == 0 && f.lazy {
			asLazy = 1
		} else if f.most == 0 {
			asDo = api.MaxOps - 1
		}
		check(t, f.name+", Do", codeOf(pushes(api.MaxOps-1, do(f.name, api.MaxOps-1))), asDo)
		check(t, f.name+", Do, one more", codeOf(pushes(api.MaxOps, do(f.name, api.MaxOps))), 0)
		check(t, f.name+", Lazy", codeOf(block(lazy(f.name, slices.Repeat([]int{1}, 10*api.MaxOps)...)), pushes(1)), asLazy)
	}
}

// P13.1: names that are no function.
func TestNoFunctions(t *testing.T) {
	for _, name := range []string{
		"", " ", "hop", "If", "IF", "or ", " or", "or,", "Strip", "strip\n", "strip\x00", "\x00strip", "str", "stripp", "filter_out", "filterout", "ifor", "or and",
		"shell", "realpath", "foreach i", "$(or", "-", "\xff", strings.Repeat("or", 1000), strings.Repeat("a", 100000),
	} {
		for n := range 6 {
			blocks := slices.Repeat([]int{1}, n)
			short := strconv.Quote(name[:min(len(name), 20)]) + " of " + strconv.Itoa(n)
			check(t, short+", Do", codeOf(pushes(n, do(name, n)), pushes(1)), 0)
			check(t, short+", Lazy", codeOf(block(lazy(name, blocks...)), pushes(1)), 0)
			check(t, short+", Lazy, in another block", codeOf(pushes(1), block(lazy(name, slices.Repeat([]int{2}, n)...)), pushes(1)), 0)
			check(t, short+", Do, behind one that is", codeOf(pushes(1, do("strip", 1), join(1), do(name, 1)), pushes(1)), 0)
			check(t, short+", Lazy, behind one that is", codeOf(block(lazy("or", 1), lazy(name, blocks...), join(2)), pushes(1)), 0)
		}
	}
}

// P13.1: one function that stands often, right and then wrong.
func TestFunctionsAgain(t *testing.T) {
	a := pushes(1)
	check(t, "right twice", codeOf(block(push("a"), do("strip", 1), do("strip", 1))), 1)
	check(t, "right, then too many", codeOf(block(push("a"), do("strip", 1), push("b"), do("strip", 2))), 0)
	check(t, "right, then as a Lazy", codeOf(block(push("a"), do("strip", 1), lazy("strip", 1), join(2)), a), 0)
	check(t, "right as a Lazy, then as a Do", codeOf(block(lazy("or", 1), do("or", 1)), a), 0)
	check(t, "right, then too few", codeOf(block(lazy("if", 1, 1), lazy("if", 1), join(2)), a), 0)
	check(t, "right in one block, wrong in another", codeOf(block(lazy("if", 2, 2)), block(lazy("if", 2, 2, 2, 2)), a), 0)
	check(t, "right in several blocks", codeOf(block(lazy("if", 2, 2)), block(lazy("if", 2, 2, 2)), a), 1)
}
