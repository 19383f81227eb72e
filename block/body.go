package block

import (
	"slices"

	"burnish/api"
)

const (
	leastLiterals = 257 // literal lengths that a block of kind 2 gives
	leastDists    = 1   // distance lengths
	leastOwn      = 4   // lengths of the symbols of runs

	literalsBits = 5 // in which it is said how many literal lengths there are
	distsBits    = 5
	ownBits      = 4
	lengthBits   = 3 // of a length of a symbol of runs
	longestOwn   = 1<<lengthBits - 1
)

// ownOrder is the symbols of runs, in the order in which their lengths stand.
var ownOrder = [allSymbols]int{16, 17, 18, 0, 8, 7, 9, 6, 10, 5, 11, 4, 12, 3, 13, 2, 14, 1, 15}

// header is what a block of kind 2 says of its codes.
type header struct {
	literals, dists int // lengths of each sort
	runs            []Run
	table           table // of the runs' symbols
	own             []int // the lengths of these, in the order in which they stand
}

// newHeader is the header for literal lengths and distance lengths.
func newHeader(literals, dists []int) (*header, error) {
	literals, dists = shorten(literals, leastLiterals), shorten(dists, leastDists)
	runs, err := Runs(slices.Concat(literals, dists))
	if err != nil {
		return nil, err
	}
	counts := make([]int, allSymbols)
	for _, r := range runs {
		counts[r.Symbol]++
	}
	lengths, err := complete(counts, longestOwn)
	if err != nil {
		return nil, err
	}
	t, err := newTable(counts, lengths, runBase)
	if err != nil {
		return nil, err
	}
	var own []int
	for _, symbol := range ownOrder {
		own = append(own, lengths[symbol])
	}
	return &header{len(literals), len(dists), runs, t, shorten(own, leastOwn)}, nil
}

// shorten is lengths without the zeros at their end, but at least so many of them.
func shorten(lengths []int, least int) []int {
	size := len(lengths)
	for size > least && lengths[size-1] == 0 {
		size--
	}
	return lengths[:size]
}

// bits is how many bits it has. A block of kind 1 has no header.
func (h *header) bits() int {
	if h == nil {
		return 0
	}
	return literalsBits + distsBits + ownBits + lengthBits*len(h.own) + h.table.bits()
}

// body is what follows the kind in a block of kind 1 or 2.
type body struct {
	header          *header // nil for kind 1
	literals, dists table
	tokens          []api.Token
}

// newBody is the body of a valid block.
func newBody(b Block) (body, error) {
	literals, dists, err := tables(b.Kind, b.Tokens)
	if err != nil {
		return body{}, err
	}
	x := body{nil, literals, dists, b.Tokens}
	if b.Kind == dynamic {
		x.header, err = newHeader(literals.lengths, dists.lengths)
	}
	return x, err
}

// bits is how many bits it has, with the end.
func (x body) bits() int { return x.header.bits() + x.literals.bits() + x.dists.bits() }
