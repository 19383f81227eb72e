package inflate

import (
	"slices"

	"burnish/api"
	"burnish/bits"
	"burnish/canon"
)

// The kinds of blocks.
const (
	stored  = 0
	fixed   = 1
	dynamic = 2
)

const (
	mostLiterals = 286 // literal lengths that a block may give
	mostDists    = 30  // distance lengths that a block may give

	// The symbols of a sequence of lengths that aren't a length themselves.
	repeat     = 16
	fewZeros   = 17
	manyZeros  = 18
	allLengths = 19 // symbols
)

// lengthOrder is the symbols of a sequence of lengths, in the order in which their own lengths stand.
var lengthOrder = [allLengths]int{16, 17, 18, 0, 8, 7, 9, 6, 10, 5, 11, 4, 12, 3, 13, 2, 14, 1, 15}

// books is by what a block is written.
type books struct {
	literals, dists *canon.Book
}

// reader is packed bytes that are being read, and what was read.
type reader struct {
	*bits.Reader
	output
	fixed books // nil before a block of the kind was read: so each after the first one costs no more than its bits
}

// unpack reads all blocks.
func unpack(b []byte, most int, listed bool) (*reader, error) {
	if !isMost(most) {
		return nil, api.ErrRange
	}
	r := &reader{Reader: bits.NewReader(b, false), output: output{most: most, listed: listed}}
	for {
		n, err := r.numbers(1, 2)
		if err != nil {
			return nil, err
		}
		if err := r.block(n[1]); err != nil {
			return nil, err
		}
		if n[0] == 1 {
			return r, nil
		}
	}
}

// numbers reads a number for each count of bits.
func (r *reader) numbers(counts ...int) ([]int, error) {
	out := make([]int, len(counts))
	for i, count := range counts {
		n, err := r.Take(count)
		if err != nil {
			return nil, err
		}
		out[i] = n
	}
	return out, nil
}

// block reads what follows the kind of a block.
func (r *reader) block(kind int) error {
	switch kind {
	case stored:
		return r.stored()
	case fixed:
		if err := r.prepareFixed(); err != nil {
			return err
		}
		return r.symbols(r.fixed)
	case dynamic:
		own, err := r.books()
		if err != nil {
			return err
		}
		return r.symbols(own)
	}
	return api.ErrMalformed
}

// stored reads the bytes of a block that has them as they are.
func (r *reader) stored() error {
	r.Align()
	n, err := r.numbers(16, 16)
	if err != nil {
		return err
	}
	if n[0]^n[1] != 0xffff {
		return api.ErrMalformed
	}
	// Whether they are too many is known before it is known whether they are all there.
	if n[0] > r.most-len(r.text) {
		return api.ErrTooLarge
	}
	text, err := r.numbers(slices.Repeat([]int{8}, n[0])...)
	if err != nil {
		return err
	}
	for _, x := range text {
		if err := r.add(api.Token{Dist: x}); err != nil {
			return err
		}
	}
	return nil
}

// symbols reads literals and matches up to the end of the block.
func (r *reader) symbols(by books) error {
	for {
		symbol, err := by.literals.Read(r.Reader)
		if err != nil {
			return err
		}
		if symbol == blockEnd {
			return nil
		}
		t := api.Token{Dist: symbol}
		if symbol > blockEnd {
			if t, err = r.match(symbol, by.dists); err != nil {
				return err
			}
		}
		if err := r.add(t); err != nil {
			return err
		}
	}
}

// match reads what follows the symbol of a length.
func (r *reader) match(symbol int, dists *canon.Book) (api.Token, error) {
	length, err := r.above(LengthBase(symbol))
	if err != nil {
		return api.Token{}, err
	}
	symbol, err = dists.Read(r.Reader)
	if err != nil {
		return api.Token{}, err
	}
	dist, err := r.above(DistBase(symbol))
	if err != nil {
		return api.Token{}, err
	}
	return api.Token{Len: length, Dist: dist}, nil
}

// above reads the extra bits of a symbol that has a base, if it is one.
func (r *reader) above(base, extra int, ok bool) (int, error) {
	if !ok {
		return 0, api.ErrMalformed
	}
	n, err := r.Take(extra)
	if err != nil {
		return 0, err
	}
	return base + n, nil
}

// prepareFixed makes the books of kind 1, if they aren't made yet.
func (r *reader) prepareFixed() error {
	if r.fixed.literals != nil {
		return nil
	}
	literals, err := canon.NewBook(slices.Concat(
		slices.Repeat([]int{8}, 144),
		slices.Repeat([]int{9}, 112),
		slices.Repeat([]int{7}, 24),
		slices.Repeat([]int{8}, 8),
	))
	if err != nil {
		return err
	}
	dists, err := canon.NewBook(slices.Repeat([]int{5}, 32))
	r.fixed = books{literals, dists}
	return err
}

// books reads the books of kind 2.
func (r *reader) books() (books, error) {
	literals, dists, err := r.sizes()
	if err != nil {
		return books{}, err
	}
	s, err := r.sequence(literals + dists)
	if err != nil {
		return books{}, err
	}
	// The literal lengths may be refused before the distance lengths are read.
	if err := s.grow(literals); err != nil {
		return books{}, err
	}
	out := books{}
	if out.literals, err = literalBook(s.lengths[:literals]); err != nil {
		return books{}, err
	}
	if err := s.grow(s.size); err != nil {
		return books{}, err
	}
	if out.dists, err = distBook(s.lengths[literals:]); err != nil {
		return books{}, err
	}
	return out, nil
}

// sizes reads how many literal lengths and distance lengths there are.
func (r *reader) sizes() (literals, dists int, err error) {
	n, err := r.Take(5)
	if err != nil {
		return 0, 0, err
	}
	if literals = n + 257; literals > mostLiterals {
		return 0, 0, api.ErrMalformed
	}
	n, err = r.Take(5)
	if err != nil {
		return 0, 0, err
	}
	if dists = n + 1; dists > mostDists {
		return 0, 0, api.ErrMalformed
	}
	return literals, dists, nil
}

// literalBook is the book of literal lengths that a block gives.
func literalBook(lengths []int) (*canon.Book, error) {
	free, err := canon.Free(lengths)
	if err != nil || free > 0 || lengths[blockEnd] == 0 {
		return nil, api.ErrMalformed
	}
	return canon.NewBook(lengths)
}

// distBook is the book of distance lengths that a block gives.
func distBook(lengths []int) (*canon.Book, error) {
	free, err := canon.Free(lengths)
	if err != nil || free > 0 && !isSparse(lengths) {
		return nil, api.ErrMalformed
	}
	return canon.NewBook(lengths)
}

// isSparse tells whether there is at most one code, of length 1.
func isSparse(lengths []int) bool {
	sum := 0
	for _, length := range lengths {
		sum += length
	}
	return sum <= 1
}
