package syntax

import (
	"strconv"
	"strings"
	"testing"

	"wainwright/api"
	"wainwright/table"
)

// bounds is how many arguments a function has; most 0 bounds nothing.
type bounds struct {
	name        string
	least, most int
}

// functions is the names and numbers of the chapter of layer 9.
func functions() []bounds {
	var l []bounds
	for _, row := range []struct {
		names       string
		least, most int
	}{
		{"strip sort words firstword lastword dir notdir suffix basename abspath wildcard", 1, 1},
		{"findstring filter filter-out word addsuffix addprefix join", 2, 2},
		{"subst patsubst wordlist", 3, 3},
		{"if", 2, 3},
		{"or and", 1, 0},
		{"intcmp", 2, 5},
		{"foreach let", 3, 3},
		{"call", 1, 0},
		{"eval value origin flavor error warning info", 1, 1},
	} {
		for _, name := range strings.Fields(row.names) {
			l = append(l, bounds{name, row.least, row.most})
		}
	}
	return l
}

// some is so many arguments, each another one.
func some(n int) []string {
	var l []string
	for i := range n {
		l = append(l, "a"+strconv.Itoa(i))
	}
	return l
}

// P10.1: the functions are table's, all of them.
func TestFunctionsAreTables(t *testing.T) {
	all := functions()
	if want := table.Names(); len(all) != len(want) {
		t.Fatalf("%d functions, the table has %d", len(all), len(want))
	}
	for _, f := range all {
		if _, ok := table.Find(f.name); !ok {
			t.Errorf("%s is none of the table", f.name)
		}
	}
}

// P10.1: each function with each number of arguments up to more than it may have.
func TestArgumentNumbers(t *testing.T) {
	for _, f := range functions() {
		for n := 1; n <= f.least+f.most+40; n++ {
			checkNumber(t, f, n, "$("+f.name+" ", ")")
			checkNumber(t, f, n, "${"+f.name+"\t", "}")
		}
	}
}

// checkNumber holds a call with so many arguments against what the chapter asks of it.
func checkNumber(t *testing.T, f bounds, n int, ahead, behind string) {
	t.Helper()
	args := some(n)
	s := ahead + strings.Join(args, ",") + behind
	if n < f.least {
		checkError(t, s, api.ErrFew)
		return
	}
	if f.most > 0 && n > f.most {
		args = append(args[:f.most-1], strings.Join(args[f.most-1:], ","))
	}
	checkParse(t, s, calls(f.name, args...))
}

// P10.1: each name of the table, and what may stand behind it.
func TestBehindNames(t *testing.T) {
	for _, f := range functions() {
		args := some(max(f.least, 1))
		s := strings.Join(args, ",")
		for _, blank := range []string{" ", "\t", "\n", "  ", "\n\t ", "\t\t\n\n"} {
			checkParse(t, "$("+f.name+blank+s+")", calls(f.name, args...))
			checkParse(t, "${"+f.name+blank+s+"}", calls(f.name, args...))
		}
		for i := range 256 {
			b := string([]byte{byte(i)})
			if !strings.Contains(" \t\n$(){}:", b) && !shorterName(f.name+b) {
				checkParse(t, "$("+f.name+b+s+")", ref(f.name+b+s))
				checkParse(t, "$("+f.name+b+" "+s+")", ref(f.name+b+" "+s))
			}
		}
		checkParse(t, "$("+f.name+")", ref(f.name))
		checkParse(t, "${"+f.name+"}", ref(f.name))
		checkParse(t, "$("+f.name+","+s+")", ref(f.name+","+s))
		checkParse(t, "$( "+f.name+" "+s+")", ref(" "+f.name+" "+s))
		checkParse(t, "$("+f.name+":"+s+"=b)", sub(f.name, s, "b"))
		checkParse(t, "$("+strings.ToUpper(f.name)+" "+s+")", ref(strings.ToUpper(f.name)+" "+s))
	}
}

// shorterName tells whether a name of the table with a byte more is one, too.
func shorterName(name string) bool {
	for _, f := range functions() {
		if f.name == name {
			return true
		}
	}
	return false
}
