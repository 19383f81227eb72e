package block

import (
	"cmp"
	"math"
	"slices"
	"strings"

	"burnish/api"
)

// Here is what the tests hold the package against: the chapter's definitions, as plainly as they can be written. Bits are a text of 0 and 1, in the order in which they stand.

// pick is a number from 0 to n-1, the same each time for a seed.
func pick(seed *uint64, n int) int {
	*seed = *seed*6364136223846793005 + 1442695040888963407
	return int((*seed >> 33) % uint64(n))
}

// many is a length, so many times.
func many(count, length int) []int { return slices.Repeat([]int{length}, count) }

// with is the list with something else at a place.
func with[T any](list []T, at int, x T) []T {
	out := slices.Clone(list)
	out[at] = x
	return out
}

// wild is numbers that are nothing here.
var wild = []int{-1, -2, -3, -16, -256, -257, -32768, math.MinInt32, math.MinInt + 1, math.MinInt, 1 << 31, 1 << 32, 1<<32 + 3, 1<<32 + 257, 1 << 62, math.MaxInt - 1, math.MaxInt}

// plainBits is a number as a text, its lowest bit first.
func plainBits(n, count int) string {
	out := make([]byte, count)
	for i := range out {
		out[i] = '0' + byte(n>>i&1)
	}
	return string(out)
}

// plainText is the bits of bytes.
func plainText(b []byte) string {
	var out strings.Builder
	for _, x := range b {
		out.WriteString(plainBits(int(x), 8))
	}
	return out.String()
}

// plainCodes is the codes of lengths by the symbol.
func plainCodes(lengths []int) map[int]string {
	var order []int
	for symbol, length := range lengths {
		if length > 0 {
			order = append(order, symbol)
		}
	}
	slices.SortFunc(order, func(a, b int) int { return cmp.Or(lengths[a]-lengths[b], a-b) })
	out, last := map[int]string{}, ""
	for _, symbol := range order {
		if at := strings.LastIndexByte(last, '0'); at >= 0 {
			last = last[:at] + "1" + strings.Repeat("0", len(last)-at-1)
		}
		last += strings.Repeat("0", lengths[symbol]-len(last))
		out[symbol] = last
	}
	return out
}

// plainFree is what lengths leave free of 2^16.
func plainFree(lengths []int) int {
	free := 1 << 16
	for _, length := range lengths {
		if length > 0 {
			free -= 1 << (16 - length)
		}
	}
	return free
}

// base is the least number of a symbol, and how many extra bits it has.
type base struct{ least, extra int }

// lengthBases and distBases are those of layer 6, from the symbols 257 and 0 on.
var (
	lengthBases = []base{{3, 0}, {4, 0}, {5, 0}, {6, 0}, {7, 0}, {8, 0}, {9, 0}, {10, 0}, {11, 1}, {13, 1}, {15, 1}, {17, 1}, {19, 2}, {23, 2}, {27, 2}, {31, 2}, {35, 3}, {43, 3}, {51, 3}, {59, 3}, {67, 4}, {83, 4}, {99, 4}, {115, 4}, {131, 5}, {163, 5}, {195, 5}, {227, 5}, {258, 0}}
	distBases   = []base{{1, 0}, {2, 0}, {3, 0}, {4, 0}, {5, 1}, {7, 1}, {9, 2}, {13, 2}, {17, 3}, {25, 3}, {33, 4}, {49, 4}, {65, 5}, {97, 5}, {129, 6}, {193, 6}, {257, 7}, {385, 7}, {513, 8}, {769, 8}, {1025, 9}, {1537, 9}, {2049, 10}, {3073, 10}, {4097, 11}, {6145, 11}, {8193, 12}, {12289, 12}, {16385, 13}, {24577, 13}}
)

// runBases is how many lengths the symbols 16 to 18 stand for.
var runBases = []base{{3, 2}, {3, 3}, {11, 7}}

// holder is the place of the last base that is no more than n.
func holder(bases []base, n int) int {
	at := 0
	for at+1 < len(bases) && bases[at+1].least <= n {
		at++
	}
	return at
}

// plainUnruns is the lengths of runs, if they stand for any.
func plainUnruns(runs []Run) ([]int, bool) {
	var out []int
	for _, r := range runs {
		switch {
		case 0 <= r.Symbol && r.Symbol <= 15 && r.Extra == 0:
			out = append(out, r.Symbol)
		case r.Symbol == 16 && 0 <= r.Extra && r.Extra <= 3 && len(out) > 0:
			out = append(out, many(3+r.Extra, out[len(out)-1])...)
		case r.Symbol == 17 && 0 <= r.Extra && r.Extra <= 7:
			out = append(out, many(3+r.Extra, 0)...)
		case r.Symbol == 18 && 0 <= r.Extra && r.Extra <= 127:
			out = append(out, many(11+r.Extra, 0)...)
		default:
			return nil, false
		}
	}
	return out, true
}

// isPlainToken tells whether a token is one of layer 6.
func isPlainToken(t api.Token) bool {
	isLiteral := t.Len == 0 && 0 <= t.Dist && t.Dist <= 255
	isMatch := 3 <= t.Len && t.Len <= 258 && 1 <= t.Dist && t.Dist <= 32768
	return isLiteral || isMatch
}

// isPlainBlock tells whether a block is valid, byte by byte.
func isPlainBlock(b Block) bool {
	rest := b.Text
	for _, t := range b.Tokens {
		if !isPlainToken(t) {
			return false
		}
		for range max(t.Len, 1) {
			if len(rest) == 0 {
				return false
			}
			at := len(b.Text) - len(rest)
			if t.Len == 0 && rest[0] != byte(t.Dist) || t.Len > 0 && at >= t.Dist && rest[0] != b.Text[at-t.Dist] {
				return false
			}
			rest = rest[1:]
		}
	}
	return len(rest) == 0 && (b.Kind == 0 && len(b.Text) <= 65535 || b.Kind == 1 || b.Kind == 2)
}

// plainHead is a block's first three bits.
func plainHead(kind int, last bool) string {
	if last {
		return "1" + plainBits(kind, 2)
	}
	return "0" + plainBits(kind, 2)
}

// plainStored is the bits of a block of kind 0 behind so many bits.
func plainStored(before int, text []byte, last bool) string {
	head := plainHead(0, last)
	fill := strings.Repeat("0", -(before+len(head))&7)
	return head + fill + plainBits(len(text), 16) + plainBits(65535-len(text), 16) + plainText(text)
}

// plainFixed is the bits of a block of kind 1.
func plainFixed(tokens []api.Token, last bool) string {
	literals := plainCodes(slices.Concat(many(144, 8), many(112, 9), many(24, 7), many(8, 8)))
	var out strings.Builder
	out.WriteString(plainHead(1, last))
	for _, t := range tokens {
		if t.Len == 0 {
			out.WriteString(literals[t.Dist])
			continue
		}
		length, dist := holder(lengthBases, t.Len), holder(distBases, t.Dist)
		out.WriteString(literals[257+length] + plainBits(t.Len-lengthBases[length].least, lengthBases[length].extra))
		// All distances have codes of five bits, which stand in the order of the symbols.
		for i := range 5 {
			out.WriteString(plainBits(dist>>(4-i), 1))
		}
		out.WriteString(plainBits(t.Dist-distBases[dist].least, distBases[dist].extra))
	}
	out.WriteString(literals[256])
	return out.String()
}

// plainCounts is how often each symbol occurs in a block of tokens.
func plainCounts(tokens []api.Token) (literals, dists []int) {
	literals, dists = make([]int, 286), make([]int, 30)
	literals[256] = 1
	for _, t := range tokens {
		if t.Len == 0 {
			literals[t.Dist]++
			continue
		}
		literals[257+holder(lengthBases, t.Len)]++
		dists[holder(distBases, t.Dist)]++
	}
	return literals, dists
}

// plainLeast is the least cost of codes of any lengths for counts, and how long the longest of them is: the two rarest go together, again and again.
func plainLeast(counts []int) (cost, longest int) {
	type tree struct{ weight, deep int }
	var trees []tree
	for _, count := range counts {
		if count > 0 {
			trees = append(trees, tree{count, 0})
		}
	}
	if len(trees) == 1 {
		return trees[0].weight, 1
	}
	for len(trees) > 1 {
		slices.SortFunc(trees, func(a, b tree) int { return cmp.Or(a.weight-b.weight, a.deep-b.deep) })
		x := tree{trees[0].weight + trees[1].weight, 1 + max(trees[0].deep, trees[1].deep)}
		cost, longest = cost+x.weight, x.deep
		trees = append(trees[2:], x)
	}
	return cost, longest
}

// unread is bits that are read from their beginning.
type unread struct {
	text string
	bad  bool // what was asked for isn't there
}

func (u *unread) number(count int) int {
	if len(u.text) < count {
		u.bad = true
		return 0
	}
	n := 0
	for i := range count {
		n |= int(u.text[i]-'0') << i
	}
	u.text = u.text[count:]
	return n
}

func (u *unread) above(b base) int { return b.least + u.number(b.extra) }

// decoder is the symbols by their codes.
func decoder(lengths []int) map[string]int {
	out := map[string]int{}
	for symbol, code := range plainCodes(lengths) {
		out[code] = symbol
	}
	return out
}

func (u *unread) symbol(codes map[string]int) int {
	for size := 1; size <= 15 && size <= len(u.text); size++ {
		if symbol, ok := codes[u.text[:size]]; ok {
			u.text = u.text[size:]
			return symbol
		}
	}
	u.bad = true
	return 256
}

// dynamicRead is a block of kind 2 as it is read.
type dynamicRead struct {
	literals, dists, own []int // lengths
	runs                 []Run
	tokens               []api.Token
	header               int // bits of it
}

// readDynamic reads what follows the kind of a block of kind 2, if that is well formed up to the last bit.
func readDynamic(text string) (dynamicRead, bool) {
	u := &unread{text: text}
	out := dynamicRead{own: make([]int, 19)}
	literals, dists, own := 257+u.number(5), 1+u.number(5), 4+u.number(4)
	for _, symbol := range []int{16, 17, 18, 0, 8, 7, 9, 6, 10, 5, 11, 4, 12, 3, 13, 2, 14, 1, 15}[:own] {
		out.own[symbol] = u.number(3)
	}
	if u.bad || literals > 286 || dists > 30 || plainFree(out.own) != 0 {
		return dynamicRead{}, false
	}
	codes := decoder(out.own)
	var lengths []int
	for !u.bad && len(lengths) < literals+dists {
		r := Run{Symbol: u.symbol(codes)}
		if r.Symbol >= 16 && !u.bad {
			r.Extra = u.number(runBases[r.Symbol-16].extra)
		}
		out.runs = append(out.runs, r)
		lengths, _ = plainUnruns(out.runs)
	}
	if u.bad || len(lengths) != literals+dists {
		return dynamicRead{}, false
	}
	out.header = len(text) - len(u.text)
	out.literals, out.dists = lengths[:literals], lengths[literals:]
	out.tokens = u.tokens(decoder(out.literals), decoder(out.dists))
	return out, !u.bad && u.text == ""
}

// tokens reads tokens up to the end of the block.
func (u *unread) tokens(literals, dists map[string]int) []api.Token {
	var out []api.Token
	for !u.bad {
		symbol := u.symbol(literals)
		switch {
		case symbol < 256:
			out = append(out, api.Token{Dist: symbol})
		case symbol == 256:
			return out
		default:
			length := u.above(lengthBases[symbol-257])
			if symbol = u.symbol(dists); symbol < 30 {
				out = append(out, api.Token{Len: length, Dist: u.above(distBases[symbol])})
			}
		}
	}
	return nil
}

// letters is literals.
func letters(text string) []api.Token {
	var out []api.Token
	for _, x := range []byte(text) {
		out = append(out, api.Token{Dist: int(x)})
	}
	return out
}

// expand is what tokens add to a text that precedes them.
func expand(before []byte, tokens []api.Token) []byte {
	out := slices.Clone(before)
	for _, t := range tokens {
		if t.Len == 0 {
			out = append(out, byte(t.Dist))
		}
		for range t.Len {
			out = append(out, out[len(out)-t.Dist])
		}
	}
	return out[len(before):]
}

// noise is bytes of no pattern, of so many kinds.
func noise(seed *uint64, size, kinds int) []byte {
	out := make([]byte, size)
	for i := range out {
		out[i] = byte(pick(seed, kinds))
	}
	return out
}

// mixed is tokens of no pattern, with what they add to a text: literals of so many kinds, and matches as far as a distance and what precedes them allow.
func mixed(seed *uint64, before []byte, size, kinds, far int) ([]api.Token, []byte) {
	var tokens []api.Token
	at := len(before)
	for range size {
		t := api.Token{Dist: pick(seed, kinds)}
		if reach := min(at, far); reach > 0 && pick(seed, 2) == 0 {
			t = api.Token{Len: 3 + pick(seed, 1+pick(seed, 256)), Dist: 1 + pick(seed, 1+pick(seed, reach))}
		}
		tokens = append(tokens, t)
		at += max(t.Len, 1)
	}
	return tokens, expand(before, tokens)
}

// steep is literals of which each occurs as often as the two before it together, or once more, so that the best codes are as long as there are kinds of them.
func steep(kinds int) []api.Token {
	var out []api.Token
	a, b := 1, 2
	for symbol := range kinds {
		out = append(out, slices.Repeat([]api.Token{{Dist: symbol}}, a)...)
		a, b = b, a+b
	}
	return out
}
