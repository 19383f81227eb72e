package inflate

import (
	"cmp"
	"math"
	"slices"
	"strings"
	"sync"

	"burnish/api"
)

// Here is what the tests hold the package against: a writer of packed bits, and a plain reader of them. Both have bits as a text of 0 and 1, in the order in which they are read.

// pick is a number from 0 to n-1, the same each time for a seed.
func pick(seed *uint64, n int) int {
	*seed = *seed*6364136223846793005 + 1442695040888963407
	return int((*seed >> 33) % uint64(n))
}

// many is a length, so many times.
func many(count, length int) []int { return slices.Repeat([]int{length}, count) }

// with is the list with something else at a place.
func with(list []int, at, n int) []int {
	out := slices.Clone(list)
	out[at] = n
	return out
}

// wild is numbers that are nothing here.
var wild = []int{-1, -2, -3, -256, -257, -258, -32768, math.MinInt32, math.MinInt + 1, math.MinInt, 1 << 31, 1 << 32, 1<<32 + 3, 1<<32 + 257, 1 << 62, math.MaxInt - 1, math.MaxInt}

// plainBits is a number as a text, its lowest bit first.
func plainBits(n, count int) string {
	out := make([]byte, count)
	for i := range out {
		out[i] = '0' + byte(n>>i&1)
	}
	return string(out)
}

// plainBytes is the bytes of a text, the last one filled with a bit.
func plainBytes(text string, fill string) []byte {
	text += strings.Repeat(fill, -len(text)&7)
	out := make([]byte, len(text)/8)
	for i := range text {
		out[i/8] |= (text[i] - '0') << (i % 8)
	}
	return out
}

// plainText is the bits of bytes.
func plainText(b []byte) string {
	var out strings.Builder
	for _, x := range b {
		out.WriteString(plainBits(int(x), 8))
	}
	return out.String()
}

// plainCodes is the codes of lengths by the symbol.
func plainCodes(lengths []int) map[int]string {
	var order []int
	for symbol, length := range lengths {
		if length > 0 {
			order = append(order, symbol)
		}
	}
	slices.SortFunc(order, func(a, b int) int { return cmp.Or(lengths[a]-lengths[b], a-b) })
	out, last := map[int]string{}, ""
	for _, symbol := range order {
		if at := strings.LastIndexByte(last, '0'); at >= 0 {
			last = last[:at] + "1" + strings.Repeat("0", len(last)-at-1)
		}
		last += strings.Repeat("0", lengths[symbol]-len(last))
		out[symbol] = last
	}
	return out
}

// plainFree is what lengths leave free of 2^16.
func plainFree(lengths []int) int {
	free := 1 << 16
	for _, length := range lengths {
		if length > 0 {
			free -= 1 << (16 - length)
		}
	}
	return free
}

// base is a symbol's base, and its extra bits.
type base struct{ least, extra int }

// plainLengths is the bases of length symbols, each found from the one before.
func plainLengths() []base {
	var out []base
	for n := range 8 {
		out = append(out, base{3 + n, 0})
	}
	for extra := 1; extra <= 5; extra++ {
		for range 4 {
			last := out[len(out)-1]
			out = append(out, base{last.least + 1<<last.extra, extra})
		}
	}
	return append(out, base{258, 0})
}

// plainDists is the bases of distance symbols.
func plainDists() []base {
	out := []base{{1, 0}, {2, 0}, {3, 0}, {4, 0}}
	for extra := 1; extra <= 13; extra++ {
		for range 2 {
			last := out[len(out)-1]
			out = append(out, base{last.least + 1<<last.extra, extra})
		}
	}
	return out
}

// holds tells whether a number is one of those of a symbol.
func (b base) holds(n int) bool { return b.least <= n && n < b.least+1<<b.extra }

// fixedLiterals is the literal lengths of kind 1.
func fixedLiterals() []int {
	return slices.Concat(many(144, 8), many(112, 9), many(24, 7), many(8, 8))
}

// plainExpand is what tokens come to, if they come to anything.
func plainExpand(tokens []api.Token) []byte {
	var out []byte
	for _, t := range tokens {
		if t.Len == 0 {
			out = append(out, byte(t.Dist))
		}
		for range t.Len {
			out = append(out, out[len(out)-t.Dist])
		}
	}
	return out
}

// codeOrder is the order of the lengths of a sequence's codes.
var codeOrder = []int{16, 17, 18, 0, 8, 7, 9, 6, 10, 5, 11, 4, 12, 3, 13, 2, 14, 1, 15}

// written is packed bits.
type written struct{ text string }

func (w *written) number(n, count int) { w.text += plainBits(n, count) }

func (w *written) head(last, kind int) {
	w.number(last, 1)
	w.number(kind, 2)
}

// size is what stands before the bytes of kind 0: how many there are, and a number that should be its complement.
func (w *written) size(n, complement int) {
	w.text += strings.Repeat("1", -len(w.text)&7) // ignored, so as wrong as can be
	w.number(n, 16)
	w.number(complement, 16)
}

func (w *written) stored(last int, b []byte) {
	w.head(last, 0)
	w.size(len(b), len(b)^0xffff)
	w.text += plainText(b)
}

// length writes a length of a match.
func (w *written) length(n int, codes map[int]string) {
	for i, b := range plainLengths() {
		if code, ok := codes[257+i]; ok && b.holds(n) {
			w.text += code + plainBits(n-b.least, b.extra)
			return
		}
	}
	panic("no code for the length")
}

// dist writes a distance of a match.
func (w *written) dist(n int, codes map[int]string) {
	for i, b := range plainDists() {
		if code, ok := codes[i]; ok && b.holds(n) {
			w.text += code + plainBits(n-b.least, b.extra)
			return
		}
	}
	panic("no code for the distance")
}

func (w *written) tokens(tokens []api.Token, literals, dists map[int]string) {
	for _, t := range tokens {
		if t.Len == 0 {
			w.text += literals[t.Dist]
			continue
		}
		w.length(t.Len, literals)
		w.dist(t.Dist, dists)
	}
}

// fixed writes a block of kind 1.
func (w *written) fixed(last int, tokens []api.Token) {
	codes := plainCodes(fixedLiterals())
	w.head(last, 1)
	w.tokens(tokens, codes, plainCodes(many(32, 5)))
	w.text += codes[256]
}

// ownLengths is lengths of a sequence's codes that have all symbols.
func ownLengths() []int { return slices.Concat(many(13, 4), many(6, 5)) }

// sizes writes how many lengths there are, and those of the sequence's codes.
func (w *written) sizes(literals, dists int, own []int) {
	w.number(literals-257, 5)
	w.number(dists-1, 5)
	count := 19
	for count > 4 && own[codeOrder[count-1]] == 0 {
		count--
	}
	w.number(count-4, 4)
	for _, symbol := range codeOrder[:count] {
		w.number(own[symbol], 3)
	}
}

// lengths writes lengths by themselves.
func (w *written) lengths(list, own []int) {
	codes := plainCodes(own)
	for _, length := range list {
		w.text += codes[length]
	}
}

// runs writes lengths, where some that are equal stand together.
func (w *written) runs(list, own []int, seed *uint64) {
	codes := plainCodes(own)
	for at := 0; at < len(list); {
		same := 1
		for at+same < len(list) && list[at+same] == list[at] {
			same++
		}
		kind := pick(seed, 4)
		switch {
		case kind == 0 && same >= 3 && list[at] == 0:
			same = 3 + pick(seed, min(same, 10)-2)
			w.text += codes[17] + plainBits(same-3, 3)
		case kind <= 1 && same >= 11 && list[at] == 0:
			same = 11 + pick(seed, min(same, 138)-10)
			w.text += codes[18] + plainBits(same-11, 7)
		case kind <= 2 && same >= 3 && at > 0 && list[at] == list[at-1]:
			same = 3 + pick(seed, min(same, 6)-2)
			w.text += codes[16] + plainBits(same-3, 2)
		default:
			same = 1
			w.text += codes[list[at]]
		}
		at += same
	}
}

// dynamic writes a block of kind 2.
func (w *written) dynamic(last int, literals, dists []int, tokens []api.Token) {
	own := ownLengths()
	w.head(last, 2)
	w.sizes(len(literals), len(dists), own)
	w.lengths(slices.Concat(literals, dists), own)
	codes := plainCodes(literals)
	w.tokens(tokens, codes, plainCodes(dists))
	w.text += codes[256]
}

// plainReader reads packed bits as the document says it. Where they aren't good it panics with the error.
type plainReader struct {
	text   string
	at     int
	most   int
	size   int // bytes so far
	tokens []api.Token
}

// plainInflate is the tokens of packed bytes, how many bytes were read, and the error.
func plainInflate(b []byte, most int) (tokens []api.Token, read int, err error) {
	r := &plainReader{text: plainText(b), most: most}
	defer func() {
		if p := recover(); p != nil {
			tokens, read, err = nil, 0, p.(api.Errno)
		}
	}()
	for last := false; !last; {
		last = r.take(1) == 1
		switch r.take(2) {
		case 0:
			r.plain()
		case 1:
			r.symbols(fixedTrees())
		case 2:
			r.own()
		case 3:
			panic(api.ErrMalformed)
		}
	}
	return r.tokens, (r.at + 7) / 8, nil
}

func (r *plainReader) take(count int) int {
	if r.at+count > len(r.text) {
		panic(api.ErrEnd)
	}
	n := 0
	for i := range count {
		n += int(r.text[r.at+i]-'0') << i
	}
	r.at += count
	return n
}

// plainTree is the symbols by their codes, and -1 by what codes begin with.
func plainTree(lengths []int) map[string]int {
	out := map[string]int{}
	for symbol, code := range plainCodes(lengths) {
		out[code] = symbol
		for length := range code {
			out[code[:length]] = -1
		}
	}
	return out
}

// trees is by what a block is written.
type trees struct{ literals, dists map[string]int }

// fixedTrees is those of kind 1.
var fixedTrees = sync.OnceValue(func() trees { return trees{plainTree(fixedLiterals()), plainTree(many(32, 5))} })

// code reads a code, bit by bit.
func (r *plainReader) code(tree map[string]int) int {
	for length := 0; ; length++ {
		if r.at+length > len(r.text) {
			panic(api.ErrEnd)
		}
		symbol, ok := tree[r.text[r.at:r.at+length]]
		if !ok {
			panic(api.ErrMalformed)
		}
		if symbol >= 0 {
			r.at += length
			return symbol
		}
	}
}

func (r *plainReader) add(t api.Token, size int) {
	if r.size+size > r.most {
		panic(api.ErrTooLarge)
	}
	r.size += size
	r.tokens = append(r.tokens, t)
}

// plain reads the rest of kind 0.
func (r *plainReader) plain() {
	r.at = (r.at + 7) / 8 * 8
	n := r.take(16)
	if r.take(16) != 0xffff-n {
		panic(api.ErrMalformed)
	}
	if r.size+n > r.most {
		panic(api.ErrTooLarge)
	}
	for range n {
		r.add(api.Token{Dist: r.take(8)}, 1)
	}
}

// symbols reads the rest of kind 1 or 2.
func (r *plainReader) symbols(t trees) {
	lengthBases, distBases := plainLengths(), plainDists()
	for {
		symbol := r.code(t.literals)
		if symbol == 256 {
			return
		}
		if symbol < 256 {
			r.add(api.Token{Dist: symbol}, 1)
			continue
		}
		if symbol > 285 {
			panic(api.ErrMalformed)
		}
		b := lengthBases[symbol-257]
		length := b.least + r.take(b.extra)
		symbol = r.code(t.dists)
		if symbol > 29 {
			panic(api.ErrMalformed)
		}
		b = distBases[symbol]
		dist := b.least + r.take(b.extra)
		if dist > r.size {
			panic(api.ErrMalformed)
		}
		r.add(api.Token{Len: length, Dist: dist}, length)
	}
}

// own reads the rest of kind 2.
func (r *plainReader) own() {
	literals := r.take(5) + 257
	if literals > 286 {
		panic(api.ErrMalformed)
	}
	dists := r.take(5) + 1
	if dists > 30 {
		panic(api.ErrMalformed)
	}
	own := make([]int, 19)
	for _, symbol := range codeOrder[:r.take(4)+4] {
		own[symbol] = r.take(3)
	}
	if plainFree(own) != 0 {
		panic(api.ErrMalformed)
	}
	tree := plainTree(own)
	var list []int
	checked := false
	for len(list) < literals+dists {
		switch symbol := r.code(tree); symbol {
		case 16:
			if len(list) == 0 {
				panic(api.ErrMalformed)
			}
			list = append(list, many(3+r.take(2), list[len(list)-1])...)
		case 17:
			list = append(list, many(3+r.take(3), 0)...)
		case 18:
			list = append(list, many(11+r.take(7), 0)...)
		default:
			list = append(list, symbol)
		}
		if len(list) > literals+dists {
			panic(api.ErrMalformed)
		}
		if !checked && len(list) >= literals {
			checked = true
			if plainFree(list[:literals]) != 0 || list[256] == 0 {
				panic(api.ErrMalformed)
			}
		}
	}
	rest := list[literals:]
	few := slices.DeleteFunc(slices.Clone(rest), func(n int) bool { return n == 0 })
	if plainFree(rest) != 0 && len(few) != 0 && !slices.Equal(few, []int{1}) {
		panic(api.ErrMalformed)
	}
	r.symbols(trees{plainTree(list[:literals]), plainTree(rest)})
}
