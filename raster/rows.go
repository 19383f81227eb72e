package raster

import (
	"iter"

	"burnish/api"
	"burnish/head"
	"burnish/lace"
)

const byteBits = 8

// pass is what a raster has of a pass: how many columns and rows, of how many bytes a row is, and where in the raster its pixels stand.
type pass struct {
	columns, rows int
	size          int
	places        []int
}

// passes goes through the passes of a raster with a good head.
func passes(h api.Head) iter.Seq[pass] {
	return func(yield func(pass) bool) {
		places, err := lace.Spread(h.Width, h.Height, h.Lace)
		if err != nil {
			return
		}
		for _, sides := range lace.Passes(h.Width, h.Height, h.Lace) {
			columns, rows := sides[0], sides[1]
			count := columns * rows
			if !yield(pass{columns, rows, head.RowSize(h, columns), places[:count]}) {
				return
			}
			places = places[count:]
		}
	}
}

// all goes through the rows of a pass: the number of each, and where its pixels stand.
func (p pass) all() iter.Seq2[int, []int] {
	return func(yield func(int, []int) bool) {
		for row := range p.rows {
			if !yield(row, p.places[row*p.columns:(row+1)*p.columns]) {
				return
			}
		}
	}
}

// filtered is how many bytes all rows have, each with its kind.
func (p pass) filtered() int {
	return p.rows * (1 + p.size)
}

// pixelSize is the bytes of a pixel, at least 1.
func pixelSize(h api.Head) int {
	return max(1, head.Channels(h.Color)*h.Depth/byteBits)
}
