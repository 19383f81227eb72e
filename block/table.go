package block

import (
	"slices"

	"burnish/api"
	"burnish/canon"
	"burnish/inflate"
	"burnish/merge"
	"burnish/parse"
)

const (
	allDists = 30 // distance symbols
	unused   = 15 // the length that a symbol's price has where it doesn't occur
	unit     = 16 // the price of a bit
)

// table is the symbols of one sort: how often each occurs, its code, and what stands in its extra bits.
type table struct {
	counts  []int
	lengths []int
	book    *canon.Book
	base    func(symbol int) (base, extra int, ok bool)
}

// newTable is the table of symbols whose codes have these lengths.
func newTable(counts, lengths []int, base func(int) (int, int, bool)) (table, error) {
	book, err := canon.NewBook(lengths)
	if err != nil {
		return table{}, err
	}
	return table{counts, lengths, book, base}, nil
}

// extra is how many extra bits a symbol has.
func (t table) extra(symbol int) int {
	_, extra, _ := t.base(symbol)
	return extra
}

// bits is how many bits all symbols have, as often as they occur.
func (t table) bits() int {
	sum := 0
	for symbol, count := range t.counts {
		sum += count * (t.lengths[symbol] + t.extra(symbol))
	}
	return sum
}

// price is what a symbol costs.
func (t table) price(symbol int) int {
	length := unused
	// A symbol may have a code and not occur, so the lengths don't tell.
	if t.counts[symbol] > 0 {
		length = t.lengths[symbol]
	}
	return unit * (length + t.extra(symbol))
}

// tables is the tables of tokens in a block of kind 1 or 2.
func tables(kind int, tokens []api.Token) (literals, dists table, err error) {
	literalCounts, distCounts := parse.Count(tokens)
	literalLengths, distLengths := fixedLengths()
	if kind == dynamic {
		literalLengths, distLengths, err = bestLengths(literalCounts, distCounts)
		if err != nil {
			return table{}, table{}, err
		}
	}
	literals, err = newTable(literalCounts, literalLengths, inflate.LengthBase)
	if err != nil {
		return table{}, table{}, err
	}
	dists, err = newTable(distCounts, distLengths, inflate.DistBase)
	return literals, dists, err
}

// fixedLengths is the lengths of kind 1.
func fixedLengths() (literals, dists []int) {
	literals = slices.Concat(
		slices.Repeat([]int{8}, 144),
		slices.Repeat([]int{9}, 112),
		slices.Repeat([]int{7}, 24),
		slices.Repeat([]int{8}, 8),
	)
	return literals, slices.Repeat([]int{5}, 32)
}

// bestLengths is the lengths of kind 2 for counts.
func bestLengths(literalCounts, distCounts []int) (literals, dists []int, err error) {
	literals, err = complete(literalCounts, api.MaxBits)
	if err != nil {
		return nil, nil, err
	}
	// A single distance may have the only code, and without any there needn't be one.
	dists, err = merge.Lengths(distCounts, api.MaxBits)
	return literals, dists, err
}

// complete is the best lengths for counts of which one at least isn't 0. If no other is, one more symbol has a code, as a single code isn't complete.
func complete(counts []int, longest int) ([]int, error) {
	lengths, err := merge.Lengths(counts, longest)
	if err != nil {
		return nil, err
	}
	free, err := canon.Free(lengths)
	if err != nil {
		return nil, err
	}
	if free > 0 {
		lengths[slices.Index(lengths, 0)] = 1
	}
	return lengths, nil
}
