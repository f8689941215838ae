package fold

import (
	"maps"
	"slices"
	"strconv"
	"strings"

	"wainwright/api"
	"wainwright/path"
	"wainwright/pattern"
	"wainwright/syntax"
	"wainwright/vfs"
	"wainwright/wild"
)

// machine runs expansions as layer 21 has it, node by node, with a way of its own to each function.
type machine struct {
	ground map[string]api.Var
	frames []map[string]api.Var
	folds  bool // texts of variables, too
	left   int
	steps  int
	said   []string
	open   []string // variables; "" for a call: what is ahead of the last one counts no more
	number int      // of expansions that are open
}

// files is those that each machine has.
var files = vfs.New([]api.Entry{{Path: "a.c", Text: "a"}, {Path: "x/y.c"}, {Path: "b", Dir: true}})

// machineOf is a machine with variables and so many steps.
func machineOf(vars map[string]api.Var, folds bool, steps int) *machine {
	return &machine{ground: maps.Clone(vars), folds: folds, left: steps}
}

// ended is all that a run answers, and leaves.
type ended struct {
	value string
	err   api.Errno
	said  []string
	steps int
	vars  map[string]api.Var
}

// run is what comes of a node.
func (m *machine) run(n api.Node) (e ended) {
	defer func() {
		if p := recover(); p != nil {
			e.value, e.err = "", p.(api.Errno)
		}
		e.said, e.steps, e.vars = m.said, m.steps, m.ground
	}()
	mayBe(n)
	return ended{value: m.node(n)}
}

// mayBe asks whether the code of a node that Parse makes may be: it has as many instructions as nodes.
func mayBe(n api.Node) {
	if syntax.Size(n) > api.MaxOps {
		panic(api.ErrCode)
	}
}

// text is the value of a text, as by Expand.
func (m *machine) text(s string) string {
	n, err := syntax.Parse(s)
	if err != api.OK {
		panic(err)
	}
	mayBe(n)
	if m.folds {
		n = Fold(n)
	}
	return m.node(n)
}

// step is a step more.
func (m *machine) step() {
	if m.left == 0 {
		panic(api.ErrSteps)
	}
	m.left--
	m.steps++
}

// put is a value, if it may be put.
func put(s string) string {
	if len(s) > api.MaxText {
		panic(api.ErrBig)
	}
	return s
}

func (m *machine) node(n api.Node) string {
	if n.Kind == api.Call && slices.Contains([]string{"if", "or", "and", "intcmp", "foreach", "let"}, n.S) {
		m.step()
		return put(m.lazy(n.S, n.L))
	}
	var a []string
	for _, below := range n.L {
		a = append(a, m.node(below))
	}
	m.step()
	switch n.Kind {
	case api.Text:
		return put(n.S)
	case api.Ref:
		return put(m.get(a[0]))
	case api.Sub:
		return put(m.sub(a[0], a[1], a[2]))
	case api.Cat:
		return put(strings.Join(a, ""))
	}
	return put(m.do(n.S, a))
}

// find is the variable of a name: of the last frame that has it, or of the ground.
func (m *machine) find(name string) (api.Var, bool) {
	for _, frame := range slices.Backward(m.frames) {
		if v, ok := frame[name]; ok {
			return v, true
		}
	}
	v, ok := m.ground[name]
	return v, ok
}

// get is the value of a variable.
func (m *machine) get(name string) string {
	v, ok := m.find(name)
	if !ok || v.Flavor == api.Simple {
		return v.Value
	}
	for _, open := range slices.Backward(m.open) {
		if open == "" {
			break
		}
		if open == name {
			panic(api.ErrSelf)
		}
	}
	return m.opened(name, v.Value)
}

// opened is the value of a text while a variable, or a call, is open.
func (m *machine) opened(name, s string) string {
	if len(m.open) == api.MaxDeep {
		panic(api.ErrDeep)
	}
	m.open = append(m.open, name)
	s = m.text(s)
	m.open = m.open[:len(m.open)-1]
	return s
}

func (m *machine) sub(name, from, to string) string {
	s := m.get(name)
	if !pattern.Of(from).Has {
		from, to = "%"+from, "%"+to
	}
	return m.patsubst(from, to, s)
}

func (m *machine) patsubst(from, to, s string) string {
	l := wordsOf(s)
	for i, w := range l {
		l[i], _ = pattern.Replace(from, to, w)
	}
	return strings.Join(l, " ")
}

func auto(s string) api.Var {
	return api.Var{Value: s, Flavor: api.Simple, Origin: api.Auto}
}

// framed is the value of a node in a frame.
func (m *machine) framed(frame map[string]api.Var, n api.Node) string {
	m.frames = append(m.frames, frame)
	s := m.node(n)
	m.frames = m.frames[:len(m.frames)-1]
	return s
}

// wordsOf is a text's words.
func wordsOf(s string) []string {
	return strings.FieldsFunc(s, func(r rune) bool { return r == ' ' || r == '\t' || r == '\n' })
}

// numberOf is the number that a text is.
func numberOf(s string) int {
	s = strings.Trim(s, " \t\n")
	n, err := strconv.Atoi(s)
	if err != nil {
		panic(api.ErrNumber)
	}
	return n
}

func (m *machine) lazy(name string, l []api.Node) string {
	switch name {
	case "if":
		if len(wordsOf(m.node(l[0]))) > 0 {
			return m.node(l[1])
		}
		if len(l) < 3 {
			return ""
		}
		return m.node(l[2])
	case "or":
		for _, n := range l {
			if s := m.node(n); s != "" {
				return s
			}
		}
		return ""
	case "and":
		last := ""
		for _, n := range l {
			if last = m.node(n); last == "" {
				return ""
			}
		}
		return last
	case "intcmp":
		return m.intcmp(l)
	case "foreach":
		return m.foreach(l)
	}
	names, values := wordsOf(m.node(l[0])), wordsOf(m.node(l[1]))
	frame := map[string]api.Var{}
	for i, name := range names {
		rest := values[min(i, len(values)):]
		if i < len(names)-1 {
			rest = rest[:min(1, len(rest))]
		}
		frame[name] = auto(strings.Join(rest, " "))
	}
	return m.framed(frame, l[2])
}

func (m *machine) intcmp(l []api.Node) string {
	first, second := m.node(l[0]), m.node(l[1])
	a, b := numberOf(first), numberOf(second)
	if len(l) == 2 {
		if a == b {
			return strconv.Itoa(a)
		}
		return ""
	}
	at := 3
	if a < b {
		at = 2
	} else if a > b && len(l) == 5 {
		at = 4
	}
	if at >= len(l) {
		return ""
	}
	return m.node(l[at])
}

func (m *machine) foreach(l []api.Node) string {
	name := strings.Trim(m.node(l[0]), " \t\n")
	values := wordsOf(m.node(l[1]))
	if name == "" {
		panic(api.ErrName)
	}
	var all []string
	for _, w := range values {
		all = append(all, m.framed(map[string]api.Var{name: auto(w)}, l[2]))
		put(strings.Join(all, " "))
	}
	return strings.Join(all, " ")
}

// do is the value of a function that is not lazy.
func (m *machine) do(name string, a []string) string {
	switch name {
	case "call":
		return m.call(a)
	case "value", "origin", "flavor":
		return m.about(name, strings.Trim(a[0], " \t\n"))
	case "error", "warning", "info":
		m.said = append(m.said, name+": "+a[0])
		if name == "error" {
			panic(api.ErrStop)
		}
		return ""
	case "eval":
		return m.eval(a[0])
	case "wildcard":
		return strings.Join(wild.All(files, wordsOf(a[0])), " ")
	case "word":
		n, l := numberOf(a[0]), wordsOf(a[1])
		if n < 1 {
			panic(api.ErrNumber)
		}
		if n > len(l) {
			return ""
		}
		return l[n-1]
	case "wordlist":
		from, to, l := numberOf(a[0]), numberOf(a[1]), wordsOf(a[2])
		if from < 1 || to < 0 {
			panic(api.ErrNumber)
		}
		to = min(to, len(l))
		return strings.Join(l[min(from-1, to):to], " ")
	case "patsubst":
		return m.patsubst(a[0], a[1], a[2])
	}
	return textFunction(name, a)
}

func (m *machine) call(a []string) string {
	name := strings.Trim(a[0], " \t\n")
	v, ok := m.find(name)
	if !ok || v.Flavor == api.Simple {
		return v.Value
	}
	frame := map[string]api.Var{"0": auto(name)}
	for i, s := range a[1:] {
		frame[strconv.Itoa(i+1)] = auto(s)
	}
	m.frames = append(m.frames, frame)
	s := m.opened("", v.Value)
	m.frames = m.frames[:len(m.frames)-1]
	return s
}

// about is what a function tells of a variable; those of the ground are all of files.
func (m *machine) about(name, of string) string {
	v, ok := m.find(of)
	switch {
	case name == "value":
		return v.Value
	case !ok:
		return "undefined"
	case name == "origin" && v.Origin == api.Auto:
		return "automatic"
	case name == "origin":
		return "file"
	case v.Flavor == api.Simple:
		return "simple"
	}
	return "recursive"
}

// eval sets the variable that is named ahead of a =; without one it is an error. It is heard, too.
func (m *machine) eval(s string) string {
	m.said = append(m.said, "eval: "+s)
	name, value, ok := strings.Cut(s, "=")
	if !ok {
		panic(api.ErrSep)
	}
	m.ground[strings.Trim(name, " ")] = api.Var{Value: value, Flavor: api.Recursive}
	return ""
}

// textFunction is the value of a function that hangs on its arguments alone.
func textFunction(name string, a []string) string {
	last := wordsOf(a[len(a)-1])
	each := func(of func(w string) string) string {
		var l []string
		for _, w := range last {
			if s := of(w); s != "" {
				l = append(l, s)
			}
		}
		return strings.Join(l, " ")
	}
	switch name {
	case "strip":
		return strings.Join(last, " ")
	case "words":
		return strconv.Itoa(len(last))
	case "firstword":
		return strings.Join(last[:min(1, len(last))], "")
	case "lastword":
		return strings.Join(last[max(0, len(last)-1):], "")
	case "sort":
		slices.Sort(last)
		return strings.Join(slices.Compact(last), " ")
	case "findstring":
		return a[0][:len(a[0])*min(1, strings.Count(a[1], a[0]))]
	case "subst":
		if a[0] == "" {
			return a[2] + a[1]
		}
		return strings.Join(strings.Split(a[2], a[0]), a[1])
	case "addsuffix":
		return each(func(w string) string { return w + a[0] })
	case "addprefix":
		return each(func(w string) string { return a[0] + w })
	case "dir":
		return each(func(w string) string {
			if way := w[:strings.LastIndex(w, "/")+1]; way != "" {
				return way
			}
			return "./"
		})
	case "notdir":
		return each(func(w string) string { return w[strings.LastIndex(w, "/")+1:] })
	case "suffix":
		return each(path.Suffix)
	case "basename":
		return each(path.Base)
	case "abspath":
		return each(path.Abs)
	case "filter":
		return each(func(w string) string { return filtered(wordsOf(a[0]), w, true) })
	case "filter-out":
		return each(func(w string) string { return filtered(wordsOf(a[0]), w, false) })
	}
	return joined(wordsOf(a[0]), last) // join
}

// filtered is a word, if one of the patterns matches it, or none does; else nothing.
func filtered(patterns []string, w string, in bool) string {
	matches := slices.ContainsFunc(patterns, func(p string) bool {
		_, ok := pattern.Of(p).Match(w)
		return ok
	})
	if matches == in {
		return w
	}
	return ""
}

func joined(a, b []string) string {
	l := make([]string, max(len(a), len(b)))
	copy(l, a)
	for i, w := range b {
		l[i] += w
	}
	return strings.Join(l, " ")
}
