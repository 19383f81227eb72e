package squeeze

import (
	"bytes"
	"math"
	"slices"
	"strings"

	"burnish/api"
	"burnish/block"
)

// Here is what the tests hold the package against: the document's definitions, as plainly as they can be written, and the texts and tokens for that.

// wild is numbers that are nothing here.
var wild = []int{math.MinInt, math.MinInt + 1, math.MinInt32, -32768, -256, -16, -2, -1, 1 << 31, 1 << 32, 1<<32 + 3, 1 << 62, math.MaxInt - 1, math.MaxInt}

// plainStored is the plain encoding of a text.
func plainStored(text []byte) []byte {
	var out []byte
	for first := true; first || len(text) > 0; first = false {
		n := min(len(text), 65535)
		last := byte(0)
		if n == len(text) {
			last = 1
		}
		out = append(out, last, byte(n), byte(n>>8), ^byte(n), ^byte(n>>8))
		out = append(out, text[:n]...)
		text = text[n:]
	}
	return out
}

// base is the least number of a symbol, and how many extra bits it has.
type base struct{ least, extra int }

// lengthBases and distBases are those of layer 6, from the symbols 257 and 0 on.
var (
	lengthBases = []base{{3, 0}, {4, 0}, {5, 0}, {6, 0}, {7, 0}, {8, 0}, {9, 0}, {10, 0}, {11, 1}, {13, 1}, {15, 1}, {17, 1}, {19, 2}, {23, 2}, {27, 2}, {31, 2}, {35, 3}, {43, 3}, {51, 3}, {59, 3}, {67, 4}, {83, 4}, {99, 4}, {115, 4}, {131, 5}, {163, 5}, {195, 5}, {227, 5}, {258, 0}}
	distBases   = []base{{1, 0}, {2, 0}, {3, 0}, {4, 0}, {5, 1}, {7, 1}, {9, 2}, {13, 2}, {17, 3}, {25, 3}, {33, 4}, {49, 4}, {65, 5}, {97, 5}, {129, 6}, {193, 6}, {257, 7}, {385, 7}, {513, 8}, {769, 8}, {1025, 9}, {1537, 9}, {2049, 10}, {3073, 10}, {4097, 11}, {6145, 11}, {8193, 12}, {12289, 12}, {16385, 13}, {24577, 13}}
)

// holder is the place of the last base that is no more than n.
func holder(bases []base, n int) int {
	at := 0
	for at+1 < len(bases) && bases[at+1].least <= n {
		at++
	}
	return at
}

// number is so many bits of a number as a text of 0 and 1, the lowest one first.
func number(n, count int) string {
	out := make([]byte, count)
	for i := range out {
		out[i] = '0' + byte(n>>i&1)
	}
	return string(out)
}

// code is the same with the highest bit first.
func code(n, count int) string {
	out := []byte(number(n, count))
	slices.Reverse(out)
	return string(out)
}

// fixedCode is the code of a literal symbol of kind 1.
func fixedCode(symbol int) string {
	switch {
	case symbol < 144:
		return code(0x30+symbol, 8)
	case symbol < 256:
		return code(0x190+symbol-144, 9)
	case symbol < 280:
		return code(symbol-256, 7)
	}
	return code(0xc0+symbol-280, 8)
}

// plainFixed is the only block of tokens, which is of kind 1.
func plainFixed(tokens []api.Token) []byte {
	var out strings.Builder
	out.WriteString("1" + "10")
	for _, t := range tokens {
		if t.Len == 0 {
			out.WriteString(fixedCode(t.Dist))
			continue
		}
		length, dist := holder(lengthBases, t.Len), holder(distBases, t.Dist)
		out.WriteString(fixedCode(257+length) + number(t.Len-lengthBases[length].least, lengthBases[length].extra))
		out.WriteString(code(dist, 5) + number(t.Dist-distBases[dist].least, distBases[dist].extra))
	}
	out.WriteString(fixedCode(256))
	return plainBytes(out.String())
}

// plainBytes is the bytes of a text of 0 and 1, where each byte's lowest bit comes first.
func plainBytes(text string) []byte {
	out := make([]byte, (len(text)+7)/8)
	for i, x := range []byte(text) {
		out[i/8] |= (x - '0') << (i % 8)
	}
	return out
}

// plainGreedy is the greedy parse.
func plainGreedy(text []byte) []api.Token {
	var out []api.Token
	for at := 0; at < len(text); at += max(out[len(out)-1].Len, 1) {
		best := api.Token{Dist: int(text[at])}
		for dist := 1; dist <= at && dist <= 32768; dist++ {
			same := 0
			for same < 258 && at+same < len(text) && text[at+same] == text[at+same-dist] {
				same++
			}
			if same >= 3 && same > best.Len {
				best = api.Token{Len: same, Dist: dist}
			}
		}
		out = append(out, best)
	}
	return out
}

// isPlainToken tells whether a token is one of layer 6.
func isPlainToken(t api.Token) bool {
	isLiteral := t.Len == 0 && 0 <= t.Dist && t.Dist <= 255
	isMatch := 3 <= t.Len && t.Len <= 258 && 1 <= t.Dist && t.Dist <= 32768
	return isLiteral || isMatch
}

// isPlainBlock tells whether a block is valid, byte by byte.
func isPlainBlock(b block.Block) bool {
	at := 0
	for _, t := range b.Tokens {
		if !isPlainToken(t) {
			return false
		}
		for range max(t.Len, 1) {
			if at == len(b.Text) {
				return false
			}
			if t.Len == 0 && b.Text[at] != byte(t.Dist) || t.Len > 0 && at >= t.Dist && b.Text[at] != b.Text[at-t.Dist] {
				return false
			}
			at++
		}
	}
	return at == len(b.Text) && (b.Kind == 0 && at <= 65535 || b.Kind == 1 || b.Kind == 2)
}

// pick is a number from 0 to n-1, the same each time for a seed.
func pick(seed *uint64, n int) int {
	*seed = *seed*6364136223846793005 + 1442695040888963407
	return int((*seed >> 33) % uint64(n))
}

// noise is a text of no pattern, of so many kinds of bytes.
func noise(seed *uint64, size, kinds int) []byte {
	out := make([]byte, size)
	for i := range out {
		out[i] = byte(pick(seed, kinds))
	}
	return out
}

// noiseOf is the same, by its size.
func noiseOf(size, kinds int) []byte {
	seed := uint64(size)
	return noise(&seed, size, kinds)
}

// hill is a text of no pattern, in which numbers near 0 are more frequent than others.
func hill(seed *uint64, size, wide int) []byte {
	out := make([]byte, size)
	for i := range out {
		out[i] = byte(pick(seed, wide) - pick(seed, wide) + pick(seed, wide) - pick(seed, wide))
	}
	return out
}

// copied is a text of which pieces up to a length come again.
func copied(seed *uint64, size, kinds, longest int) []byte {
	out := noise(seed, min(size, 3), kinds)
	for len(out) < size {
		if pick(seed, 3) == 0 {
			out = append(out, byte(pick(seed, kinds)))
			continue
		}
		dist := 1 + pick(seed, min(len(out), 40000))
		for range pick(seed, longest) {
			out = append(out, out[len(out)-dist])
		}
	}
	return out[:size]
}

// prose is words of a few hundred, some of which are far more frequent than others.
func prose(seed *uint64, size int) []byte {
	var words []string
	for range 300 {
		words = append(words, string(noise(seed, 1+pick(seed, 9), 26)))
	}
	var out []byte
	for len(out) < size {
		word := words[pick(seed, 1+pick(seed, 1+pick(seed, len(words))))]
		for _, x := range []byte(word) {
			out = append(out, 'a'+x)
		}
		out = append(out, ' ')
	}
	return out[:size]
}

// rows is rows of a picture's kind: each number is near the one before it, and that of the row above.
func rows(seed *uint64, size, wide int) []byte {
	out := make([]byte, size)
	for i := range out {
		x, y := i%wide, i/wide
		out[i] = byte(x*y/50 + pick(seed, 3))
		if x > 0 && y%5 > 0 {
			out[i] -= byte((x-1)*y/50 + pick(seed, 2))
		}
	}
	return out
}

// sorts is texts of so many bytes, of many sorts.
func sorts(size int) map[string][]byte {
	seed := uint64(size)
	third := size / 3
	return map[string][]byte{
		"zeros":         make([]byte, size),
		"none alike":    noise(&seed, size, 256),
		"two kinds":     noise(&seed, size, 2),
		"three kinds":   noise(&seed, size, 3),
		"sixteen kinds": noise(&seed, size, 16),
		"hill":          hill(&seed, size, 4),
		"wide hill":     hill(&seed, size, 20),
		"copied short":  copied(&seed, size, 3, 20),
		"copied":        copied(&seed, size, 60, 30),
		"copied long":   copied(&seed, size, 200, 400),
		"prose":         prose(&seed, size),
		"rows":          rows(&seed, size, 90),
		"three parts":   slices.Concat(prose(&seed, third), noise(&seed, third, 256), make([]byte, size-2*third)),
		"one byte each": bytes.Repeat(slices.Concat(noise(&seed, 200, 256), []byte("abc")), size/203+1)[:size],
	}
}

// letters is a text's bytes as tokens.
func letters(text []byte) []api.Token {
	var out []api.Token
	for _, x := range text {
		out = append(out, api.Token{Dist: int(x)})
	}
	return out
}

// mixed is so many tokens, some of them matches, and what they stand for behind a text that they may reach into.
func mixed(seed *uint64, front []byte, count, kinds, longest int) ([]api.Token, []byte) {
	text := slices.Clone(front)
	var tokens []api.Token
	for range count {
		if len(text) == 0 || pick(seed, 4) > 0 {
			b := byte(pick(seed, kinds))
			tokens, text = append(tokens, api.Token{Dist: int(b)}), append(text, b)
			continue
		}
		t := api.Token{Len: 3 + pick(seed, longest-2), Dist: 1 + pick(seed, min(len(text), 32768))}
		tokens = append(tokens, t)
		for range t.Len {
			text = append(text, text[len(text)-t.Dist])
		}
	}
	return tokens, text[len(front):]
}

// few is the first elements of a list, to be told.
func few[T any](list []T) []T { return list[:min(len(list), 40)] }

// with is the list with something else at a place.
func with[T any](list []T, at int, x T) []T {
	out := slices.Clone(list)
	out[at] = x
	return out
}

// spare is a list with something in its spare capacity.
func spare[T any](list []T, more ...T) []T { return append(slices.Clone(list), more...)[:len(list)] }
