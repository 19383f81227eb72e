package inflate

import (
	"slices"

	"burnish/api"
	"burnish/canon"
)

// sequence is lengths that are being read.
type sequence struct {
	*reader
	book    *canon.Book
	lengths []int
	size    int // lengths that there are to be
}

// sequence reads the book by which so many lengths are written.
func (r *reader) sequence(size int) (*sequence, error) {
	n, err := r.Take(4)
	if err != nil {
		return nil, err
	}
	own, err := r.numbers(slices.Repeat([]int{3}, n+4)...)
	if err != nil {
		return nil, err
	}
	lengths := make([]int, allLengths)
	for i, length := range own {
		lengths[lengthOrder[i]] = length
	}
	if free, err := canon.Free(lengths); err != nil || free > 0 {
		return nil, api.ErrMalformed
	}
	book, err := canon.NewBook(lengths)
	if err != nil {
		return nil, err
	}
	return &sequence{reader: r, book: book, size: size}, nil
}

// grow reads on till there are at least so many lengths.
func (s *sequence) grow(until int) error {
	for len(s.lengths) < until {
		symbol, err := s.book.Read(s.Reader)
		if err != nil {
			return err
		}
		length, count, err := s.run(symbol)
		if err != nil {
			return err
		}
		if count > s.size-len(s.lengths) {
			return api.ErrMalformed
		}
		s.lengths = append(s.lengths, slices.Repeat([]int{length}, count)...)
	}
	return nil
}

// run reads what follows a symbol, and answers the length that it stands for, and how often.
func (s *sequence) run(symbol int) (length, count int, err error) {
	switch symbol {
	case repeat:
		if len(s.lengths) == 0 {
			return 0, 0, api.ErrMalformed
		}
		count, err = s.above(3, 2, true)
		return s.lengths[len(s.lengths)-1], count, err
	case fewZeros:
		count, err = s.above(3, 3, true)
		return 0, count, err
	case manyZeros:
		count, err = s.above(11, 7, true)
		return 0, count, err
	}
	return symbol, 1, nil
}
