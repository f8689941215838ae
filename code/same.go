package code

import (
	"slices"

	"wainwright/api"
)

// short is how long lists are held against each other without being remembered:
// that costs more than to hold them again.
const short = 16

// place is where a list lies: two lists of one place are the same.
type place[T any] struct {
	first  *T
	length int
}

// likes leads from a place to another one that counts as like it; all that are
// like one another lead to one. Codes from a caller may have great lists that
// stand very often: so each is held about once, where pairs of lists, each for
// itself, would be far more.
type likes[T any] map[place[T]]place[T]

// known tells whether two lists of one length count as alike; from then on
// they do. A difference ends all, so what counts as alike is so if it comes to its end.
func (k likes[T]) known(a, b []T) bool {
	if len(a) < short {
		return false
	}
	p, q := k.last(a), k.last(b)
	if p == q {
		return true
	}
	k[p] = q
	return false
}

// last is the place that a list's leads to in the end. The way there is made
// shorter as it is gone.
func (k likes[T]) last(l []T) place[T] {
	p := place[T]{&l[0], len(l)}
	for {
		next, more := k[p]
		if !more {
			return p
		}
		if behind, more := k[next]; more {
			k[p] = behind
		}
		p = next
	}
}

// holder holds parts of codes against each other.
type holder struct {
	ops     likes[api.Op]
	numbers likes[int]
}

func (h holder) block(a, b []api.Op) bool {
	return len(a) == len(b) && (h.ops.known(a, b) || slices.EqualFunc(a, b, h.op))
}

func (h holder) op(a, b api.Op) bool {
	if a.Kind != b.Kind || a.N != b.N || a.S != b.S || len(a.Blocks) != len(b.Blocks) {
		return false
	}
	return h.numbers.known(a.Blocks, b.Blocks) || slices.Equal(a.Blocks, b.Blocks)
}
