package sound

import "wainwright/api"

// kind is what instructions of one kind take from the pile, and which fields they have.
type kind struct {
	takes                       int // beside as many as N says
	hasNumber, hasText, hasList bool
}

// kinds stands in the order of the kinds' numbers.
var kinds = [...]kind{
	{},                               // no kind has the number 0
	{hasText: true},                  // api.Push
	{takes: 1},                       // api.Get
	{takes: 3},                       // api.SubGet
	{hasNumber: true},                // api.Join
	{hasNumber: true, hasText: true}, // api.Do
	{hasText: true, hasList: true},   // api.Lazy
}

// formed tells whether an instruction is of a kind, and has nothing that its kind has not.
func formed(op api.Op) bool {
	if op.Kind < api.Push || op.Kind > api.Lazy {
		return false
	}
	k := kinds[op.Kind]
	return (k.hasNumber || op.N == 0) && (k.hasText || op.S == "") && (k.hasList || len(op.Blocks) == 0)
}

// taken is how many an instruction takes from the pile, if it is formed.
func taken(op api.Op) int { return kinds[op.Kind].takes + op.N }
