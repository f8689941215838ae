package syntax

import (
	"strings"

	"wainwright/api"
)

// read is the expansion of a text that stands within so many references in
// brackets. An error is told by a panic with its Errno, here and in all that is
// called: the first one met is the one that counts, so nothing is read behind it.
func read(s string, deep int) api.Node {
	var r row
	for {
		plain, rest, found := strings.Cut(s, "$")
		r.bytes.WriteString(plain)
		if !found {
			return r.node()
		}
		s = r.dollar(rest, deep)
	}
}

// readAll is the expansions of texts that stand side by side.
func readAll(deep int, texts ...string) []api.Node {
	l := make([]api.Node, len(texts))
	for i, s := range texts {
		l[i] = read(s, deep)
	}
	return l
}

// row is what was read of a text. Bytes wait till a reference follows, so that
// no two Texts come to stand side by side.
type row struct {
	things []api.Node
	bytes  strings.Builder
}

// dollar reads what a $ stands for; s is what is behind it, and what is answered is still to be read.
func (r *row) dollar(s string, deep int) string {
	if s == "" || s[0] == '$' {
		r.bytes.WriteByte('$')
		return strings.TrimPrefix(s, "$")
	}
	switch s[0] {
	case '(':
		return r.bracketed(brackets{"(", ")"}, s[1:], deep)
	case '{':
		return r.bracketed(brackets{"{", "}"}, s[1:], deep)
	}
	r.put(api.Node{Kind: api.Ref, L: []api.Node{{Kind: api.Text, S: s[:1]}}})
	return s[1:]
}

// bracketed reads the reference whose bracket is right ahead of s, and answers what is behind it.
func (r *row) bracketed(b brackets, s string, deep int) string {
	end := b.outside(s, b.shut[0])
	if end < 0 {
		panic(api.ErrForm)
	}
	if deep == api.MaxNest {
		panic(api.ErrDeep)
	}
	r.put(b.reference(s[:end], deep+1))
	return s[end+1:]
}

// put puts a reference behind all that was read.
func (r *row) put(n api.Node) {
	r.settle()
	r.things = append(r.things, n)
}

// settle makes the bytes that wait a Text.
func (r *row) settle() {
	if r.bytes.Len() > 0 {
		r.things = append(r.things, api.Node{Kind: api.Text, S: r.bytes.String()})
		r.bytes.Reset()
	}
}

// node is all that was read as one.
func (r *row) node() api.Node {
	r.settle()
	switch len(r.things) {
	case 0:
		return api.Node{Kind: api.Text}
	case 1:
		return r.things[0]
	}
	return api.Node{Kind: api.Cat, L: r.things}
}
