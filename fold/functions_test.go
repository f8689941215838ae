package fold

import (
	"slices"
	"strings"
	"testing"

	"wainwright/api"
	"wainwright/table"
)

// P14.1: each function that must be folded, on Texts.
func TestOfTexts(t *testing.T) {
	checkTexts(t, map[string]string{
		"$(strip )": "", "$(strip a)": "a", "$(strip a b)": "a b", "$(strip  a \t\n b  )": "a b", "$(strip a,b , c)": "a,b , c", "$(strip \ra\v )": "\ra\v", "${strip\t a }": "a", "$(strip $$  $$)": "$ $",
		"$(words )": "0", "$(words a)": "1", "$(words  a  b )": "2", "$(words a,b)": "1", "$(words a\tb\nc\rd)": "3", "$(words " + strings.Repeat("a ", 1234) + ")": "1234",
		"$(firstword )": "", "$(firstword a)": "a", "$(firstword  a  b )": "a", "$(firstword \n\tab\tc)": "ab", "$(firstword $$a b)": "$a",
		"$(lastword )": "", "$(lastword a)": "a", "$(lastword  a  b )": "b", "$(lastword a\n\tbc\t)": "bc", "$(lastword a b,c)": "b,c",
		"$(sort )": "", "$(sort b a)": "a b", "$(sort  b  a b a )": "a b", "$(sort b B aa a ab)": "B a aa ab b", "$(sort 10 9)": "10 9", "$(sort \xff \x00 a)": "\x00 a \xff",
		"$(dir )": "", "$(dir a)": "./", "$(dir a/b)": "a/", "$(dir / a/ /a a/b/c  d)": "/ a/ / a/b/ ./", "$(dir a/b,c/d)": "a/b,c/",
		"$(notdir )": "", "$(notdir a)": "a", "$(notdir a/b)": "b", "$(notdir a/)": "", "$(notdir a/ b c/ d/e / )": "b e", "$(notdir a/b,c/d)": "d",
	})
	checkTexts(t, map[string]string{
		"$(findstring ,)": "", "$(findstring a,)": "", "$(findstring ,a)": "", "$(findstring a,a)": "a", "$(findstring a,bab)": "a", "$(findstring ab,ba)": "", "$(findstring a b,xa by)": "a b", "$(findstring a b,a  b)": "", "$(findstring a , a )": "a ", "$(findstring a,b,a)": "a", "$(findstring %,a)": "",
		"$(addsuffix ,)": "", "$(addsuffix .c,)": "", "$(addsuffix ,a  b)": "a b", "$(addsuffix .c, a  b )": "a.c b.c", "$(addsuffix  .c d ,a b)": "a.c d  b.c d ", "$(addsuffix a,b,c d)": "b,ca da",
		"$(addprefix ,)": "", "$(addprefix x/,)": "", "$(addprefix ,a  b)": "a b", "$(addprefix x/, a  b )": "x/a x/b", "$(addprefix  x y ,a b)": "x y a x y b", "$(addprefix a,b,c d)": "ab,c ad",
		"$(subst ,,)": "", "$(subst ,x,)": "x", "$(subst ,x,ab)": "abx", "$(subst ,, a )": " a ", "$(subst a,,)": "", "$(subst a,b,)": "", "$(subst a,,banana)": "bnn", "$(subst a,b,banana)": "bbnbnb", "$(subst aa,b,aaaaa)": "bba", "$(subst aba,x,ababa)": "xba", "$(subst a,aa,aba)": "aabaa", "$(subst b,a,a b  c)": "a a  c", "$(subst  , ,a b)": "a b ", "$(subst a ,b,a a )": "bb", "$(subst a,b,c,a)": "c,b", "$(subst %.c,%.o,a.c %.c)": "a.c %.o",
	})
}

// P14.1: the same on arguments that become Texts only once they are folded.
func TestOfFolded(t *testing.T) {
	checkTexts(t, map[string]string{
		"$(strip $(if a, b  c ))":                                   "b c",
		"$(strip  a $(strip  b ) c )":                               "a b c",
		"$(words $(strip  a b )$(if ,x) c)":                         "3",
		"$(firstword $(sort b a))":                                  "a",
		"$(lastword $(sort b a)c)":                                  "bc",
		"$(sort $(words a b c) $(addsuffix $(words ),2 1))":         "10 20 3",
		"$(dir $(addprefix a/,b c))":                                "a/ a/",
		"$(notdir $(addsuffix /$(words a),b c))":                    "1 1",
		"$(findstring $(strip  b ),a$(if x,b)c)":                    "b",
		"$(findstring $(if ,b),a)":                                  "",
		"$(addsuffix $(firstword .a .b),$(sort q p))":               "p.a q.a",
		"$(addprefix $(lastword a b),$(subst a,c d,a))":             "bc bd",
		"$(subst $(strip  a ),$(words ),$(addsuffix $(if ,x),a b))": "0 b",
		"$(subst $(if ,x),$(strip  y ),z)":                          "zy",
		"$(words $(words $(words )))":                               "1",
		"$(strip $(findstring $(firstword b a),$(lastword a b)))":   "b",
	})
}

// musts is the functions that must be folded but for if, with numbers of arguments.
func musts() map[string]int {
	return map[string]int{"strip": 1, "words": 1, "firstword": 1, "lastword": 1, "sort": 1, "dir": 1, "notdir": 1, "findstring": 2, "addsuffix": 2, "addprefix": 2, "subst": 3}
}

// P14.1: the same with one argument that is no Text: the others are folded all the same.
func TestOfOneUnknown(t *testing.T) {
	for name, number := range musts() {
		for at := range number {
			for _, unknown := range []string{"$(v)", "$v", "$(v:a=b)", "$(info v)", "$(or v)", "$(word 1,v)", "$(wildcard *)", "v$(v)", "$(v)$(w)", "$(value v)", "$(call v)", "$(suffix v$(w))"} {
				args, want := slices.Repeat([]string{"$(strip  a )"}, number), slices.Repeat([]string{"a"}, number)
				args[at], want[at] = unknown, unknown
				checkReads(t, map[string]string{
					"$(" + name + " " + strings.Join(args, ",") + ")":         "$(" + name + " " + strings.Join(want, ",") + ")",
					"x$(" + name + " " + strings.Join(args, ",") + ")$(if ,)": "x$(" + name + " " + strings.Join(want, ",") + ")",
				})
			}
		}
	}
}

// P14.1: the functions that have messages, errors, variables, files or numbers that may be wrong are not folded away, nor is any that need not be.
func TestNotFolded(t *testing.T) {
	for _, name := range table.Names() {
		if name == "if" || musts()[name] > 0 {
			continue
		}
		info, _ := table.Find(name)
		for number := info.Min; number <= max(info.Max, info.Min+3*(1-min(info.Max, 1))); number++ {
			args := slices.Repeat([]string{"$(strip  1  2 )"}, number)
			got := checked(t, parsed(t, "$("+name+" "+strings.Join(args, ",")+")"))
			want := calls(name, slices.Repeat([]string{"1 2"}, number)...)
			if !alike(got, want) {
				t.Errorf("%s of %d: %s, want %s", name, number, show(got), show(want))
			}
		}
	}
	checkStays(t, "$(info a)", "$(warning a)", "$(error a)", "$(eval a = 1)", "$(eval )", "$(value a)", "$(origin a)", "$(flavor a)", "$(call a)", "$(call )", "$(call strip, a )",
		"$(wildcard *)", "$(wildcard a)", "$(word 0,a)", "$(word 1,a)", "$(word x,a)", "$(wordlist 1,2,a b)", "$(wordlist 0,1,a)", "$(intcmp 1,2)", "$(intcmp a,b,c,d,e)", "$(foreach ,a,b)", "$(foreach a,b c,$(a))", "$(let a,b,$(a))")
	checkReads(t, map[string]string{
		"$(info $(strip  a ))$(strip $(error $(words )))":               "$(info a)$(strip $(error 0))",
		"$(words $(info a))":                                            "$(words $(info a))",
		"$(if $(warning $(sort b a)),$(strip  c ))":                     "$(if $(warning a b),c)",
		"$(subst a,$(eval b$(if ,c)=$(words )),$(value  $(strip  b )))": "$(subst a,$(eval b=0),$(value  b))",
	})
}

// R1: Calls with other numbers of arguments than their functions take, and of other functions, stay.
func TestOtherCalls(t *testing.T) {
	numbers := musts()
	numbers["hop"], numbers[""], numbers["Strip"], numbers["strip "] = -1, -1, -1, -1
	for name, right := range numbers {
		for number := range 6 {
			if number == right {
				continue
			}
			n := calls(name, slices.Repeat([]string{"a"}, number)...)
			if got := Fold(n); !alike(got, n) {
				t.Errorf("Fold of %s: %s", show(n), show(got))
			}
			within := callOf("strip", callOf(name, slices.Repeat([]api.Node{calls("words", "a b")}, number)...))
			want := callOf("strip", calls(name, slices.Repeat([]string{"2"}, number)...))
			if got := Fold(within); !alike(got, want) {
				t.Errorf("Fold of %s: %s", show(within), show(got))
			}
		}
	}
	for number := range 6 {
		n := calls("if", slices.Repeat([]string{"a"}, number)...)
		want := n
		if number == 2 || number == 3 {
			want = text("a")
		}
		if got := Fold(n); !alike(got, want) {
			t.Errorf("Fold of %s: %s", show(n), show(got))
		}
	}
}
