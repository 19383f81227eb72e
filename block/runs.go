package block

import (
	"slices"

	"burnish/api"
)

// The symbols of runs. Those below are a length each.
const (
	repeat     = 16
	fewZeros   = 17
	manyZeros  = 18
	allSymbols = 19
)

// Run is a symbol and the number of its extra bits.
type Run struct {
	Symbol, Extra int
}

// Runs is lengths in runs.
func Runs(lengths []int) ([]Run, error) {
	var out []Run
	for len(lengths) > 0 {
		length, count := lengths[0], alike(lengths)
		if length < 0 || length >= repeat {
			return nil, api.ErrForm
		}
		out = append(out, stretch(length, count)...)
		lengths = lengths[count:]
	}
	return out, nil
}

// alike is how many lengths, from the first one on, are the same.
func alike(lengths []int) int {
	count := 0
	for count < len(lengths) && lengths[count] == lengths[0] {
		count++
	}
	return count
}

// stretch is the runs of a length that stands so many times, at least once.
func stretch(length, count int) []Run {
	var out []Run
	longer := []int{manyZeros, fewZeros}
	if length > 0 {
		out = append(out, Run{Symbol: length})
		count--
		longer = []int{repeat}
	}
	for _, symbol := range longer {
		base, extra, _ := runBase(symbol)
		for count >= base {
			above := min(count-base, 1<<extra-1)
			out = append(out, Run{symbol, above})
			count -= base + above
		}
	}
	return append(out, slices.Repeat([]Run{{Symbol: length}}, count)...)
}

// Unruns is the lengths of runs.
func Unruns(runs []Run) ([]int, error) {
	var out []int
	for _, r := range runs {
		base, extra, ok := runBase(r.Symbol)
		if !ok || r.Extra < 0 || r.Extra >= 1<<extra {
			return nil, api.ErrForm
		}
		length := 0
		switch {
		case r.Symbol < repeat:
			length = r.Symbol
		case r.Symbol == repeat && len(out) == 0:
			return nil, api.ErrForm
		case r.Symbol == repeat:
			length = out[len(out)-1]
		}
		for range base + r.Extra {
			out = append(out, length)
		}
	}
	return out, nil
}

// runBase is how many lengths a run's symbol stands for at least, and its extra bits, if it is one.
func runBase(symbol int) (base, extra int, ok bool) {
	switch {
	case symbol < 0 || symbol >= allSymbols:
		return 0, 0, false
	case symbol == repeat:
		return 3, 2, true
	case symbol == fewZeros:
		return 3, 3, true
	case symbol == manyZeros:
		return 11, 7, true
	}
	return 1, 0, true
}
