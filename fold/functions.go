package fold

import (
	"strconv"
	"strings"

	"wainwright/api"
	"wainwright/lists"
	"wainwright/path"
	"wainwright/words"
)

// function is a function whose Calls may be known ahead.
type function struct {
	least, most int // arguments
	// known is what a Call becomes, if that is known of its folded arguments.
	known func(args []api.Node) (api.Node, bool)
}

// functions is all of them by their names.
func functions() map[string]function {
	return map[string]function{
		"strip":      ofOne(words.Strip),
		"words":      ofOne(func(s string) string { return strconv.Itoa(len(words.Split(s))) }),
		"firstword":  ofOne(func(s string) string { return wordAt(words.Split(s), 0) }),
		"lastword":   ofOne(func(s string) string { l := words.Split(s); return wordAt(l, len(l)-1) }),
		"sort":       ofOne(func(s string) string { return words.Join(lists.Sort(words.Split(s))) }),
		"dir":        ofOne(func(s string) string { return eachName(s, path.Dir) }),
		"notdir":     ofOne(func(s string) string { return eachName(s, path.Notdir) }),
		"findstring": ofTexts(2, func(a []string) (string, bool) { return find(a[0], a[1]), true }),
		"addsuffix":  ofTexts(2, func(a []string) (string, bool) { return longer(a[1], "", a[0]) }),
		"addprefix":  ofTexts(2, func(a []string) (string, bool) { return longer(a[1], a[0], "") }),
		"subst":      ofTexts(3, func(a []string) (string, bool) { return substitute(a[0], a[1], a[2]) }),
		"if":         {2, 3, choose},
	}
}

// ofTexts is a function whose value is known of so many Texts, if they and the
// value are no longer than values may be. value may say no to one that is longer.
func ofTexts(number int, value func(a []string) (string, bool)) function {
	known := func(args []api.Node) (api.Node, bool) {
		var a []string
		for _, n := range args {
			if !isValue(n) {
				return api.Node{}, false
			}
			a = append(a, n.S)
		}
		s, ok := value(a)
		if !ok || len(s) > api.MaxText {
			return api.Node{}, false
		}
		return api.Node{Kind: api.Text, S: s}, true
	}
	return function{number, number, known}
}

// ofOne is a function whose value is known of one Text.
func ofOne(value func(s string) string) function {
	return ofTexts(1, func(a []string) (string, bool) { return value(a[0]), true })
}

// isValue tells whether a node is a Text that a run may put: one that is longer is an error there.
func isValue(n api.Node) bool { return isText(n) && len(n.S) <= api.MaxText }

// choose is the argument of an if that its condition asks for.
func choose(args []api.Node) (api.Node, bool) {
	if !isValue(args[0]) {
		return api.Node{}, false
	}
	if words.Left(args[0].S) != "" {
		return args[1], true
	}
	if len(args) == 3 {
		return args[2], true
	}
	return api.Node{Kind: api.Text}, true
}

// wordAt is the word at a place; nothing, if there is none.
func wordAt(l []string, at int) string {
	if at < 0 || at >= len(l) {
		return ""
	}
	return l[at]
}

// find is what is looked for, if it stands in s.
func find(asked, s string) string {
	if strings.Contains(s, asked) {
		return asked
	}
	return ""
}

// eachName is what comes of each word of s, but for what is empty.
func eachName(s string, of func(string) string) string {
	var l []string
	for _, w := range words.Split(s) {
		if name := of(w); name != "" {
			l = append(l, name)
		}
	}
	return words.Join(l)
}

// longer is each word of s with more ahead of it and behind it. Its length is
// asked first: it may be thousands of times that of s.
func longer(s, ahead, behind string) (string, bool) {
	l := words.Split(s)
	if len(words.Join(l))+len(l)*(len(ahead)+len(behind)) > api.MaxText {
		return "", false
	}
	return words.Join(lists.Each(l, ahead, behind)), true
}

// substitute is s with to in the place of each from. Its length is asked first, too.
func substitute(from, to, s string) (string, bool) {
	if from == "" {
		return s + to, true
	}
	if len(s)+strings.Count(s, from)*(len(to)-len(from)) > api.MaxText {
		return "", false
	}
	return strings.ReplaceAll(s, from, to), true
}
