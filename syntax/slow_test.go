package syntax

import (
	"strings"

	"wainwright/api"
	"wainwright/table"
)

// slowParse is P10.1 read word by word; errors are handed up, one by one.
func slowParse(s string) (api.Node, api.Errno) {
	return slowRead(s, 0)
}

func slowRead(s string, deep int) (api.Node, api.Errno) {
	var l []api.Node
	for i := 0; i < len(s); {
		thing, next := api.Node{}, i+1
		switch {
		case s[i] != '$' || i+1 == len(s):
			thing = api.Node{Kind: api.Text, S: s[i : i+1]}
		case s[i+1] == '$':
			thing, next = api.Node{Kind: api.Text, S: "$"}, i+2
		case s[i+1] != '(' && s[i+1] != '{':
			thing, next = api.Node{Kind: api.Ref, L: []api.Node{{Kind: api.Text, S: s[i+1 : i+2]}}}, i+2
		default:
			end := slowEnd(s, i+1)
			if end < 0 {
				return api.Node{}, api.ErrForm
			}
			n, err := slowReference(s[i+1], s[i+2:end], deep+1)
			if err != api.OK {
				return api.Node{}, err
			}
			thing, next = n, end+1
		}
		if k := len(l) - 1; k >= 0 && l[k].Kind == api.Text && thing.Kind == api.Text {
			l[k].S += thing.S
		} else {
			l = append(l, thing)
		}
		i = next
	}
	switch len(l) {
	case 0:
		return api.Node{Kind: api.Text}, api.OK
	case 1:
		return l[0], api.OK
	}
	return api.Node{Kind: api.Cat, L: l}, api.OK
}

// slowShut is the bracket that shuts what another one opens.
func slowShut(open byte) byte {
	return map[byte]byte{'(': ')', '{': '}'}[open]
}

// slowEnd is the place of the bracket that shuts the one at a place; -1.
func slowEnd(s string, at int) int {
	for asked, i := 0, at; i < len(s); i++ {
		if s[i] == s[at] {
			asked++
		}
		if s[i] == slowShut(s[at]) {
			asked--
		}
		if asked == 0 {
			return i
		}
	}
	return -1
}

// slowOpen is how many brackets of some kinds are open behind a text.
func slowOpen(s, kinds string) int {
	open := 0
	for i := range len(s) {
		for k := range len(kinds) {
			if s[i] == kinds[k] {
				open++
			}
			if s[i] == slowShut(kinds[k]) {
				open = max(open-1, 0)
			}
		}
	}
	return open
}

// slowFree is the places of a byte in a text at which no bracket of some kinds is open.
func slowFree(s, asked, kinds string) []int {
	var l []int
	for i := range len(s) {
		if s[i:i+1] == asked && slowOpen(s[:i], kinds) == 0 {
			l = append(l, i)
		}
	}
	return l
}

func slowReference(open byte, s string, deep int) (api.Node, api.Errno) {
	if deep > api.MaxNest {
		return api.Node{}, api.ErrDeep
	}
	if name, info, ok := slowName(s); ok {
		args := slowArguments(strings.TrimLeft(s[len(name):], " \t\n"), string(open), info.Max)
		if len(args) < info.Min {
			return api.Node{}, api.ErrFew
		}
		return slowBelow(api.Node{Kind: api.Call, S: name}, args, deep)
	}
	for _, colon := range slowFree(s, ":", "({") {
		for _, equals := range slowFree(s, "=", "({") {
			if equals > colon {
				return slowBelow(api.Node{Kind: api.Sub}, []string{s[:colon], s[colon+1 : equals], s[equals+1:]}, deep)
			}
		}
	}
	return slowBelow(api.Node{Kind: api.Ref}, []string{s}, deep)
}

// slowName is the table's name that a text calls.
func slowName(s string) (string, table.Info, bool) {
	name := s[:len(s)-len(strings.TrimLeft(s, "abcdefghijklmnopqrstuvwxyz-"))]
	info, ok := table.Find(name)
	behind := s[len(name):]
	return name, info, ok && behind != "" && strings.Contains(" \t\n", behind[:1])
}

func slowArguments(s, open string, most int) []string {
	commas := slowFree(s, ",", open)
	if most > 0 && len(commas) > most-1 {
		commas = commas[:most-1]
	}
	var args []string
	from := 0
	for _, comma := range commas {
		args = append(args, s[from:comma])
		from = comma + 1
	}
	return append(args, s[from:])
}

func slowBelow(n api.Node, texts []string, deep int) (api.Node, api.Errno) {
	for _, s := range texts {
		below, err := slowRead(s, deep)
		if err != api.OK {
			return api.Node{}, err
		}
		n.L = append(n.L, below)
	}
	return n, api.OK
}

func slowSize(n api.Node) int {
	size := 1
	for _, below := range n.L {
		size += slowSize(below)
	}
	return size
}
