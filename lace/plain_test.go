package lace

import (
	"slices"

	"burnish/api"
)

// Here is what the tests hold the package against: eight rows of eight numbers, each the pass of a pixel, as the standard of PNGs draws them (from 1 on there).

// pick is a number from 0 to n-1, the same each time for a seed.
func pick(seed *uint64, n int) int {
	*seed = *seed*6364136223846793005 + 1442695040888963407
	return int((*seed >> 33) % uint64(n))
}

var drawn = [8]string{
	"05351535",
	"66666666",
	"45454545",
	"66666666",
	"25352535",
	"66666666",
	"45454545",
	"66666666",
}

// passAt is the pass in which a pixel is.
func passAt(x, y, lace int) int {
	if lace == 0 {
		return 0
	}
	return int(drawn[y%8][x%8] - '0')
}

// columnsOf is the columns up to end in which a pass has pixels, if the picture is high enough.
func columnsOf(pass, end int) []int {
	var out []int
	for x := range end {
		for y := range 8 {
			if passAt(x, y, 1) == pass {
				out = append(out, x)
				break
			}
		}
	}
	return out
}

func rowsOf(pass, end int) []int {
	var out []int
	for y := range end {
		for x := range 8 {
			if passAt(x, y, 1) == pass {
				out = append(out, y)
				break
			}
		}
	}
	return out
}

// plainSize counts the pixels of a pass, each in its column and row.
func plainSize(width, height, pass, lace int) (int, int) {
	columns, rows := map[int]int{}, map[int]int{}
	for y := range height {
		for x := range width {
			if passAt(x, y, lace) == pass {
				columns[x]++
				rows[y]++
			}
		}
	}
	return len(columns), len(rows)
}

// plainSpread sorts the places by their passes.
func plainSpread(width, height, lace int) []int {
	var out []int
	for place := range width * height {
		out = append(out, place)
	}
	slices.SortStableFunc(out, func(a, b int) int {
		return passAt(a%width, a/width, lace) - passAt(b%width, b/width, lace)
	})
	return out
}

// plainBits is the bits of a pixel of each color type and depth that there are, by ten times the type and the depth.
var plainBits = map[int]int{
	1: 1, 2: 2, 4: 4, 8: 8, 16: 16,
	28: 24, 36: 48,
	31: 1, 32: 2, 34: 4, 38: 8,
	48: 16, 56: 32,
	68: 32, 76: 64,
}

// plainRows goes through all pixels, and counts those of each row of each pass.
func plainRows(width, height, lace int) map[[2]int]int {
	out := map[[2]int]int{}
	for y := range height {
		for x := range width {
			out[[2]int{passAt(x, y, lace), y}]++
		}
	}
	return out
}

// plainData is the bytes of such rows, with one for each one's kind.
func plainData(rows map[[2]int]int, h api.Head) int {
	sum := 0
	for _, n := range rows {
		bits := n * plainBits[10*h.Color+h.Depth]
		sum += 1 + bits/8
		if bits%8 > 0 {
			sum++
		}
	}
	return sum
}

// heads is a head of each color type and depth.
func heads(width, height, lace int) []api.Head {
	var out []api.Head
	for color := range 7 {
		for _, depth := range []int{1, 2, 4, 8, 16} {
			if depth < 8 && color != 0 && color != 3 || depth == 16 && color == 3 || color == 1 || color == 5 {
				continue
			}
			out = append(out, api.Head{Width: width, Height: height, Depth: depth, Color: color, Lace: lace})
		}
	}
	return out
}
