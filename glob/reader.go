package glob

// reader reads a pattern's pieces from the front.
type reader struct {
	rest string
	// open: a [ that no ] ends was met. What would end a later one would have ended it, so none is looked for again: a pattern of many [ is still read in one go.
	open bool
}

// next is the piece that the rest begins with, which is not empty.
func (r *reader) next() piece {
	switch r.rest[0] {
	case '*':
		r.rest = r.rest[1:]
		return piece{wild: true, star: true}
	case '?':
		r.rest = r.rest[1:]
		return piece{wild: true, in: set{}.others()}
	case '[':
		if in, ok := r.set(); ok {
			return piece{wild: true, in: in}
		}
	}
	b, rest := unquote(r.rest)
	r.rest = rest
	return piece{in: set{}.with(b, b)}
}

// set is the set that the rest, which begins with a [, begins with, if there is one.
func (r *reader) set() (set, bool) {
	if r.open {
		return set{}, false
	}
	in, rest, ok := readSet(r.rest[1:])
	if !ok {
		r.open = true
		return set{}, false
	}
	r.rest = rest
	return in, true
}

// readSet is the set whose [ stands ahead of p, and what is behind its ].
func readSet(p string) (set, string, bool) {
	but := p != "" && (p[0] == '!' || p[0] == '^')
	if but {
		p = p[1:]
	}
	var in set
	for first := true; p != ""; first = false {
		if p[0] == ']' && !first {
			if but {
				in = in.others()
			}
			return in, p[1:], true
		}
		low, rest := unquote(p)
		high := low
		if len(rest) > 1 && rest[0] == '-' && rest[1] != ']' {
			high, rest = unquote(rest[1:])
		}
		in = in.with(low, high)
		p = rest
	}
	return set{}, "", false
}
