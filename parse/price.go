package parse

import (
	"burnish/api"
	"burnish/inflate"
)

const (
	bytesInAll   = 256
	lengthsInAll = api.MaxLen + 1
	literalsBook = 286 // symbols of a book of literals that stand in a block
	distsBook    = 30

	blockEnd = 256 // the symbol
	dearest  = 1 << 20
)

// Prices is what tokens cost.
type Prices struct {
	Literals, Lengths, Dists []int
}

// Price is what tokens cost.
func Price(tokens []api.Token, p Prices) (int, error) {
	if !p.valid() {
		return 0, api.ErrForm
	}
	sum := 0
	for _, t := range tokens {
		_, dist, ok := symbols(t)
		switch {
		case !ok:
			return 0, api.ErrForm
		case t.Len == 0:
			sum += p.Literals[t.Dist]
		default:
			sum += p.Lengths[t.Len] + p.Dists[dist]
		}
	}
	return sum, nil
}

// Count is how often symbols stand.
func Count(tokens []api.Token) ([]int, []int) {
	literals, dists := make([]int, literalsBook), make([]int, distsBook)
	literals[blockEnd] = 1
	for _, t := range tokens {
		symbol, dist, ok := symbols(t)
		if !ok {
			continue
		}
		literals[symbol]++
		if t.Len > 0 {
			dists[dist]++
		}
	}
	return literals, dists
}

// valid tells whether there is a price for everything, and none is out of range.
func (p Prices) valid() bool {
	return inRange(p.Literals, bytesInAll) && inRange(p.Lengths, lengthsInAll) && inRange(p.Dists, distsBook)
}

// inRange tells whether there are so many prices, and none is out of range.
func inRange(prices []int, size int) bool {
	for _, price := range prices {
		if price < 0 || price > dearest {
			return false
		}
	}
	return len(prices) == size
}

// distances is the prices by the distance, as far as a text of a size has any: a text may have far more matches than there are distances.
func (p Prices) distances(size int) []int {
	out := make([]int, min(size, api.MaxDist)+1)
	for dist := range out {
		if symbol, ok := inflate.DistSymbol(dist); ok {
			out[dist] = p.Dists[symbol]
		}
	}
	return out
}

// symbols is a token's symbol of a book of literals and, if it is a match, that of a book of distances, if it is valid.
func symbols(t api.Token) (symbol, dist int, ok bool) {
	if t.Len == 0 {
		return t.Dist, 0, t.Dist >= 0 && t.Dist < bytesInAll
	}
	symbol, long := inflate.LengthSymbol(t.Len)
	dist, far := inflate.DistSymbol(t.Dist)
	return symbol, dist, long && far
}
