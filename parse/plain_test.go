package parse

import (
	"math"
	"slices"

	"burnish/api"
)

// This file has the chapter's definitions, as plainly as they can be written, and the texts and prices that are held against them.

// lengthBases and distBases are the bases of the symbols of layer 6.
var (
	lengthBases = []int{3, 4, 5, 6, 7, 8, 9, 10, 11, 13, 15, 17, 19, 23, 27, 31, 35, 43, 51, 59, 67, 83, 99, 115, 131, 163, 195, 227, 258}
	distBases   = []int{1, 2, 3, 4, 5, 7, 9, 13, 17, 25, 33, 49, 65, 97, 129, 193, 257, 385, 513, 769, 1025, 1537, 2049, 3073, 4097, 6145, 8193, 12289, 16385, 24577}
)

// above is how many of the bases, in their order, are no more than n, less one: n's symbol, from 0 on.
func above(bases []int, n int) int {
	at := 0
	for at+1 < len(bases) && bases[at+1] <= n {
		at++
	}
	return at
}

// plainValid tells whether a token is one of layer 6.
func plainValid(t api.Token) bool {
	isLiteral := t.Len == 0 && 0 <= t.Dist && t.Dist <= 255
	isMatch := 3 <= t.Len && t.Len <= 258 && 1 <= t.Dist && t.Dist <= 32768
	return isLiteral || isMatch
}

// plainPrice is a valid token's price.
func plainPrice(t api.Token, p Prices) int {
	if t.Len == 0 {
		return p.Literals[t.Dist]
	}
	return p.Lengths[t.Len] + p.Dists[above(distBases, t.Dist)]
}

// plainSum is the price of valid tokens.
func plainSum(tokens []api.Token, p Prices) int {
	sum := 0
	for _, t := range tokens {
		sum += plainPrice(t, p)
	}
	return sum
}

// plainNearest is the nearest matches of all lengths at a place, the shortest first.
func plainNearest(text []byte, at int) []api.Token {
	var out []api.Token
	for dist := 1; dist <= at && dist <= 32768; dist++ {
		same := 0
		for same < 258 && at+same < len(text) && text[at+same] == text[at+same-dist] {
			same++
		}
		for len(out)+3 <= same {
			out = append(out, api.Token{Len: len(out) + 3, Dist: dist})
		}
	}
	return out
}

// plainGreedy is the greedy parse.
func plainGreedy(text []byte) []api.Token {
	var out []api.Token
	for at := 0; at < len(text); {
		if found := plainNearest(text, at); len(found) > 0 {
			out = append(out, found[len(found)-1])
			at += found[len(found)-1].Len
		} else {
			out = append(out, api.Token{Dist: int(text[at])})
			at++
		}
	}
	return out
}

// parses is all parses of a text from a place on.
func parses(text []byte, at int) [][]api.Token {
	if at == len(text) {
		return [][]api.Token{nil}
	}
	var out [][]api.Token
	for _, t := range append(plainNearest(text, at), api.Token{Dist: int(text[at])}) {
		for _, rest := range parses(text, at+max(t.Len, 1)) {
			out = append(out, slices.Concat([]api.Token{t}, rest))
		}
	}
	return out
}

// plainLeast is the price of a cheapest parse, found from the beginning to the end.
func plainLeast(text []byte, p Prices) int {
	least := slices.Repeat([]int{math.MaxInt}, len(text)+1) // up to a place
	least[0] = 0
	for at := range text {
		for _, t := range append(plainNearest(text, at), api.Token{Dist: int(text[at])}) {
			to := at + max(t.Len, 1)
			least[to] = min(least[to], least[at]+plainPrice(t, p))
		}
	}
	return least[len(text)]
}

// plainExpand is what tokens stand for, if each of them has what it repeats.
func plainExpand(tokens []api.Token) ([]byte, bool) {
	var out []byte
	for _, t := range tokens {
		if t.Len == 0 {
			out = append(out, byte(t.Dist))
		}
		for range t.Len {
			if t.Dist > len(out) {
				return nil, false
			}
			out = append(out, out[len(out)-t.Dist])
		}
	}
	return out, true
}

// pick is a number from 0 to n-1, the same each time for a seed.
func pick(seed *uint64, n int) int {
	*seed = *seed*6364136223846793005 + 1442695040888963407
	return int((*seed >> 33) % uint64(n))
}

// some is a text of no pattern, of so many kinds of bytes.
func some(seed *uint64, size, kinds int) []byte {
	out := make([]byte, size)
	for i := range out {
		out[i] = byte(pick(seed, kinds))
	}
	return out
}

// copied is a text of which pieces up to a length come again.
func copied(seed *uint64, size, kinds, longest int) []byte {
	out := some(seed, min(size, 3), kinds)
	for len(out) < size {
		if pick(seed, 3) == 0 {
			out = append(out, byte(pick(seed, kinds)))
			continue
		}
		dist := 1 + pick(seed, min(len(out), 40000))
		for range pick(seed, longest) {
			out = append(out, out[len(out)-dist])
		}
	}
	return out[:size]
}

// even is prices of one number for each of the three kinds.
func even(literal, length, dist int) Prices {
	return Prices{slices.Repeat([]int{literal}, 256), slices.Repeat([]int{length}, 259), slices.Repeat([]int{dist}, 30)}
}

// odd is prices of no pattern, below a bound each.
func odd(seed *uint64, literal, length, dist int) Prices {
	p := even(0, 0, 0)
	for i := range p.Literals {
		p.Literals[i] = pick(seed, literal)
	}
	for i := range p.Lengths {
		p.Lengths[i] = pick(seed, length)
	}
	for i := range p.Dists {
		p.Dists[i] = pick(seed, dist)
	}
	return p
}

// usual is prices such as a packer has: a literal has 8 or 9 bits, and a match a symbol for its length and one for its distance, and their extra bits.
func usual() Prices {
	p := even(9*16, 0, 0)
	for i := range 144 {
		p.Literals[i] = 8 * 16
	}
	for i := range p.Lengths {
		p.Lengths[i] = 16 * (7 + max(0, above(lengthBases, i)/4-1))
	}
	for i := range p.Dists {
		p.Dists[i] = 16 * (5 + max(0, i/2-1))
	}
	return p
}

// clone is prices that share no memory with p.
func clone(p Prices) Prices {
	return Prices{slices.Clone(p.Literals), slices.Clone(p.Lengths), slices.Clone(p.Dists)}
}

// lists is the three lists of prices.
func lists(p *Prices) []*[]int { return []*[]int{&p.Literals, &p.Lengths, &p.Dists} }
