package zlib

import (
	"hash/adler32"
	"math"
	"slices"
	"testing"

	"burnish/api"
	"burnish/bits"
	"burnish/canon"
	"burnish/inflate"
)

// Here is what the tests hold the package against: a packer of tokens, and the document's words for what is wrapped.

// pick is a number from 0 to n-1, the same each time for a seed.
func pick(seed *uint64, n int) int {
	*seed = *seed*6364136223846793005 + 1442695040888963407
	return int((*seed >> 33) % uint64(n))
}

// wild is numbers that are nothing here.
var wild = []int{math.MinInt, math.MinInt + 1, math.MinInt32, -1 << 22, -32768, -256, -1, 1<<22 + 1, 1 << 31, 1 << 32, 1<<32 + 256, 1 << 62, math.MaxInt - 1, math.MaxInt}

// packer writes blocks of kind 1.
type packer struct {
	t               *testing.T
	w               *bits.Writer
	literals, dists *canon.Book
}

func newPacker(t *testing.T) *packer {
	t.Helper()
	same := func(length, count int) []int { return slices.Repeat([]int{length}, count) }
	literals, err := canon.NewBook(slices.Concat(same(8, 144), same(9, 112), same(7, 24), same(8, 8)))
	if err != nil {
		t.Fatal(err)
	}
	dists, err := canon.NewBook(same(5, 32))
	if err != nil {
		t.Fatal(err)
	}
	return &packer{t, bits.NewWriter(false), literals, dists}
}

func (p *packer) good(err error) {
	p.t.Helper()
	if err != nil {
		p.t.Fatal(err)
	}
}

// block writes a block of tokens, all but its end.
func (p *packer) block(last int, tokens []api.Token) {
	p.t.Helper()
	p.good(p.w.Put(last, 1))
	p.good(p.w.Put(1, 2))
	for _, x := range tokens {
		if x.Len == 0 {
			p.good(p.literals.Write(p.w, x.Dist))
			continue
		}
		length, _ := inflate.LengthSymbol(x.Len)
		base, extra, _ := inflate.LengthBase(length)
		p.good(p.literals.Write(p.w, length))
		p.good(p.w.Put(x.Len-base, extra))
		dist, _ := inflate.DistSymbol(x.Dist)
		base, extra, _ = inflate.DistBase(dist)
		p.good(p.dists.Write(p.w, dist))
		p.good(p.w.Put(x.Dist-base, extra))
	}
}

func (p *packer) end() {
	p.t.Helper()
	p.good(p.literals.Write(p.w, 256))
}

// pack is packed tokens.
func pack(t *testing.T, tokens []api.Token) []byte {
	t.Helper()
	p := newPacker(t)
	p.block(1, tokens)
	p.end()
	return p.w.Bytes()
}

// packOpen is packed tokens without an end.
func packOpen(t *testing.T, tokens []api.Token) []byte {
	t.Helper()
	p := newPacker(t)
	p.block(1, tokens)
	return p.w.Bytes()
}

// packAndThen is packed tokens, and a block of that kind behind them.
func packAndThen(t *testing.T, tokens []api.Token, kind int) []byte {
	t.Helper()
	p := newPacker(t)
	p.block(0, tokens)
	p.end()
	p.good(p.w.Put(1, 1))
	p.good(p.w.Put(kind, 2))
	return p.w.Bytes()
}

// letters is literals.
func letters(n int) []api.Token {
	out := make([]api.Token, n)
	for i := range out {
		out[i].Dist = (i*i + i/256) & 255
	}
	return out
}

// reaching is as many literals as the distance needs, and a match of it.
func reaching(dist int) []api.Token { return append(letters(dist), api.Token{Len: 3, Dist: dist}) }

// expand is what tokens come to.
func expand(tokens []api.Token) []byte {
	var out []byte
	for _, x := range tokens {
		if x.Len == 0 {
			out = append(out, byte(x.Dist))
		}
		for range x.Len {
			out = append(out, out[len(out)-x.Dist])
		}
	}
	return out
}

// sumBytes is the sum of a text, in four bytes.
func sumBytes(text []byte) []byte {
	n := adler32.Checksum(text)
	return []byte{byte(n >> 24), byte(n >> 16), byte(n >> 8), byte(n)}
}

// plainHead is the two bytes for a power of the window, found by trying.
func plainHead(power int) []byte {
	first := 16*power + 8
	for second := range 256 {
		if (256*first+second)%31 == 0 && second/32%2 == 0 {
			return []byte{byte(first), byte(second)}
		}
	}
	panic("no second byte")
}

// plainWrap is a stream, put together piece by piece.
func plainWrap(power int, packed, sum []byte) []byte {
	return slices.Concat(plainHead(power), packed, sum)
}

// headError is what the document asks for two bytes.
func headError(first, second int) error {
	switch {
	case first%16 != 8, first/16 > 7, (256*first+second)%31 != 0:
		return api.ErrMalformed
	case second/32%2 == 1:
		return api.ErrUnsupported
	}
	return nil
}

// plainUnwrap is what the document asks of Unwrap, by what layer 6 answers.
func plainUnwrap(b []byte, most int) ([]byte, int, error) {
	if most < 0 || most > 1<<22 {
		return nil, 0, api.ErrRange
	}
	if len(b) < 2 {
		return nil, 0, api.ErrEnd
	}
	if err := headError(int(b[0]), int(b[1])); err != nil {
		return nil, 0, err
	}
	text, n, err := inflate.Inflate(b[2:], most)
	if err != nil {
		return nil, 0, err
	}
	tokens, err := inflate.Tokens(b[2:], most)
	if err != nil {
		return nil, 0, err
	}
	for _, x := range tokens {
		if x.Len > 0 && x.Dist > 1<<(b[0]>>4+8) {
			return nil, 0, api.ErrMalformed
		}
	}
	if len(b) < 2+n+4 {
		return nil, 0, api.ErrEnd
	}
	if !slices.Equal(b[2+n:2+n+4], sumBytes(text)) {
		return nil, 0, api.ErrMalformed
	}
	return text, 2 + n + 4, nil
}
