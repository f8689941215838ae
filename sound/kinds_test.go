package sound

import (
	"strconv"
	"strings"
	"testing"

	"wainwright/api"
)

// sample is an instruction that may be, if block 1 is there and takes are on the pile.
type sample struct {
	name  string
	op    api.Op
	takes int
}

func samples() []sample {
	return []sample{
		{"Push", push("a"), 0},
		{"Push of nothing", push(""), 0},
		{"Get", get(), 1},
		{"SubGet", subGet(), 3},
		{"Join of none", join(0), 0},
		{"Join of one", join(1), 1},
		{"Join of two", join(2), 2},
		{"Join of five", join(5), 5},
		{"Do of one", do("strip", 1), 1},
		{"Do of two", do("join", 2), 2},
		{"Do of three", do("subst", 3), 3},
		{"Do of any, one", do("call", 1), 1},
		{"Do of any, four", do("call", 4), 4},
		{"Lazy of one", lazy("or", 1), 0},
		{"Lazy of two", lazy("if", 1, 1), 0},
		{"Lazy of five", lazy("intcmp", 1, 1, 1, 1, 1), 0},
	}
}

// P13.1: each kind with as much on the pile as it takes, with less and with more.
func TestTaken(t *testing.T) {
	for _, s := range samples() {
		for n := range s.takes + 4 {
			name := s.name + " of " + strconv.Itoa(n)
			depth := 0
			if n == s.takes {
				depth = max(n, 1)
			}
			check(t, name, codeOf(pushes(n, s.op), pushes(1)), depth)
			left := n - s.takes + 1
			if n >= s.takes && left > 1 {
				check(t, name+", with all that is left joined", codeOf(pushes(n, s.op, join(left)), pushes(1)), max(n, left))
			}
			check(t, name+", with one joined too many", codeOf(pushes(n, s.op, join(max(left, 1)+1)), pushes(1)), 0)
			if n < s.takes {
				check(t, name+", with more behind", codeOf(pushes(n, s.op, push("a"), push("a"), push("a"), join(max(left, 0)+3)), pushes(1)), 0)
			}
		}
	}
}

// P13.1: of what a block has taken it can't take again, and a block's pile is empty at first.
func TestPilesAreOfBlocks(t *testing.T) {
	check(t, "what was taken", codeOf(pushes(3, join(3), join(2))), 0)
	check(t, "what another block has left", codeOf(pushes(2), block(join(2))), 0)
	check(t, "what stands ahead of a Lazy", codeOf(block(push("a"), lazy("or", 1), join(2)), block(get())), 0)
	check(t, "what a Lazy's block leaves", codeOf(block(lazy("or", 1), get()), pushes(1)), 1)
	check(t, "what two Lazy's blocks leave", codeOf(block(lazy("or", 1, 2), join(2)), pushes(1), pushes(1)), 0)
}

// P13.1: what an instruction has not is zero.
func TestFieldsThatAreNot(t *testing.T) {
	has := map[int]string{api.Push: "S", api.Join: "N", api.Do: "NS", api.Lazy: "SB"}
	for _, s := range samples() {
		place := func(name string, op api.Op) {
			t.Helper()
			check(t, s.name+", "+name, codeOf(pushes(s.takes, op), pushes(1)), 0)
			check(t, s.name+", "+name+", in the last block", codeOf(pushes(1), pushes(s.takes, op), pushes(1)), 0)
		}
		fields := has[s.op.Kind]
		for _, n := range []int{1, -1, 2, s.takes, greatest, least, 1 << 32, -1 << 32} {
			if op := s.op; n != 0 && !strings.Contains(fields, "N") {
				op.N = n
				place("N "+strconv.Itoa(n), op)
			}
		}
		for _, text := range []string{"a", "or", "strip", " ", "\x00", "\xff"} {
			if op := s.op; !strings.Contains(fields, "S") {
				op.S = text
				place("S "+strconv.Quote(text), op)
			}
		}
		for _, l := range [][]int{{1}, {0}, {-1}, {1, 1}, {greatest}, {least}, make([]int, 5)} {
			if op := s.op; !strings.Contains(fields, "B") {
				op.Blocks = l
				place(strconv.Itoa(len(l))+" Blocks", op)
			}
		}
	}
}

// R3: nil and an empty list of Blocks are one, even if that has room.
func TestEmptyLists(t *testing.T) {
	room := []int{1, 1, 1}
	for _, s := range samples() {
		for _, l := range [][]int{nil, {}, room[:0], room[3:]} {
			op := s.op
			op.Blocks = l
			depth := max(s.takes, 1)
			if op.Kind == api.Lazy {
				depth = 0
			}
			check(t, s.name+", an empty list", codeOf(pushes(s.takes, op), pushes(1)), depth)
		}
	}
}

// P13.1: kinds that are none.
func TestNoKinds(t *testing.T) {
	for _, kind := range []int{0, -1, -2, -6, 7, 8, 255, 256, 257, 1 << 16, greatest, least, 1<<32 + api.Push, 1<<8 + api.Push, 1<<63 - 1 - api.Push, -api.Push, -1<<63 + api.Push} {
		for _, op := range []api.Op{
			{Kind: kind}, {Kind: kind, N: 1}, {Kind: kind, S: "a"}, {Kind: kind, S: "strip", N: 1}, {Kind: kind, S: "or", Blocks: []int{1}}, {Kind: kind, N: -1, S: "or", Blocks: []int{1}},
		} {
			for n := range 4 {
				name := "kind " + strconv.Itoa(kind) + " of " + strconv.Itoa(n)
				check(t, name, codeOf(pushes(n, op), pushes(1)), 0)
				check(t, name+", ahead", codeOf(append(block(op), pushes(n)...), pushes(1)), 0)
				check(t, name+", in another block", codeOf(pushes(1), pushes(n, op), pushes(1)), 0)
			}
		}
	}
}

// P13.1: a Join's N at every edge.
func TestJoins(t *testing.T) {
	for _, n := range []int{-1, -2, -3, least, least + 1, least + 2, -1 << 32, -1<<32 + 1, greatest, greatest - 1, 1 << 32, 1<<32 + 1, 1<<32 + 3, 1 << 62, 6, 100} {
		for pile := range 6 {
			check(t, "Join of "+strconv.Itoa(n)+" on "+strconv.Itoa(pile), codeOf(pushes(pile, join(n))), 0)
			check(t, "Join of "+strconv.Itoa(n)+" on "+strconv.Itoa(pile)+", and back", codeOf(pushes(pile, join(n), join(pile+1))), 0)
			check(t, "Join of "+strconv.Itoa(n)+" on "+strconv.Itoa(pile)+", and one", codeOf(pushes(pile, join(n), join(1))), 0)
		}
	}
	check(t, "two that go round", codeOf(pushes(1, join(least), join(least))), 0)
	check(t, "two that come to nothing", codeOf(pushes(1, join(-1), join(3))), 0)
	for n := range 30 {
		check(t, "Join of "+strconv.Itoa(n), codeOf(pushes(n, join(n))), max(n, 1))
		check(t, "Join of "+strconv.Itoa(n)+", one less", codeOf(pushes(n, join(n+1))), 0)
		check(t, "Join of "+strconv.Itoa(n)+", one more", codeOf(pushes(n+1, join(n), join(2))), max(n+1, 2))
	}
}

// P13.1: a Do's N at every edge.
func TestDoes(t *testing.T) {
	for _, name := range []string{"strip", "join", "subst", "call", "error"} {
		for _, n := range []int{0, -1, -2, -3, least, least + 1, least + 2, -1 << 32, greatest, greatest - 1, 1 << 32, 1<<32 + 1, 1<<32 + 2, 1<<32 + 3, 1 << 62, 7, 100} {
			for pile := range 6 {
				check(t, name+" of "+strconv.Itoa(n)+" on "+strconv.Itoa(pile), codeOf(pushes(pile, do(name, n))), 0)
				check(t, name+" of "+strconv.Itoa(n)+" on "+strconv.Itoa(pile)+", and back", codeOf(pushes(pile, do(name, n), join(pile+1))), 0)
			}
		}
	}
}
