package filter

import (
	"slices"

	"burnish/api"
)

// Here is what the tests hold the package against: a picture's bytes as numbers at rows and columns, with zeros wherever nothing is.

// pick is a number from 0 to n-1, the same each time for a seed.
func pick(seed *uint64, n int) int {
	*seed = *seed*6364136223846793005 + 1442695040888963407
	return int((*seed >> 33) % uint64(n))
}

// someBytes is that many bytes, of one of a few sorts.
func someBytes(seed *uint64, size int) []byte {
	b := make([]byte, size)
	sort, at := pick(seed, 4), pick(seed, 256)
	for i := range b {
		switch sort {
		case 0:
			at = pick(seed, 256)
		case 1:
			at += pick(seed, 3) - 1
		case 2:
			at = []int{0, 1, 127, 128, 254, 255}[pick(seed, 6)]
		case 3:
			at += 3
		}
		b[i] = byte(at)
	}
	return b
}

// grid is rows of numbers.
type grid [][]int

func gridOf(rows []byte, size int) grid {
	var out grid
	for line := range slices.Chunk(rows, size) {
		var row []int
		for _, x := range line {
			row = append(row, int(x))
		}
		out = append(out, row)
	}
	return out
}

func (g grid) at(row, column int) int {
	if row < 0 || row >= len(g) || column < 0 {
		return 0
	}
	return g[row][column]
}

func (g grid) bytes() []byte {
	var out []byte
	for _, row := range g {
		for _, x := range row {
			out = append(out, byte(x))
		}
	}
	return out
}

// plainForetell takes each of the three with how far it is, and the least of these in the order of a, b, c.
func plainForetell(kind, a, b, c int) int {
	switch kind {
	case 1:
		return a
	case 2:
		return b
	case 3:
		return (a + b - (a+b)%2) / 2
	case 4:
		aim := a + b - c
		from := func(x int) int { return max(aim-x, x-aim) }
		return slices.MinFunc([]int{a, b, c}, func(x, y int) int { return from(x) - from(y) })
	}
	return 0
}

func (g grid) foretell(kind, row, column, bpp int) int {
	return plainForetell(kind, g.at(row, column-bpp), g.at(row-1, column), g.at(row-1, column-bpp))
}

// filtered is a row's filtered bytes.
func (g grid) filtered(kind, row, bpp int) []byte {
	var out []byte
	for column, x := range g[row] {
		out = append(out, byte((x-g.foretell(kind, row, column, bpp)+256)%256))
	}
	return out
}

// unfilter makes a row of filtered bytes what it was ahead of that.
func (g grid) unfilter(kind, row, bpp int) {
	for column := range g[row] {
		g[row][column] = (g[row][column] + g.foretell(kind, row, column, bpp)) % 256
	}
}

// two is a grid of a row that may have one ahead of it, and where the row is in it.
func two(row, ahead []byte) (grid, int) {
	if len(ahead) == 0 {
		return append(grid{}, gridOf(row, len(row))...), 0
	}
	return gridOf(slices.Concat(ahead, row), len(row)), 1
}

func plainBad(kind int, row, ahead []byte, bpp int) bool {
	kindThere := slices.Contains([]int{0, 1, 2, 3, 4}, kind)
	bppThere := slices.Contains([]int{1, 2, 3, 4, 5, 6, 7, 8}, bpp)
	return !kindThere || !bppThere || len(ahead) > 0 && len(ahead) != len(row)
}

func plainFilter(kind int, row, ahead []byte, bpp int) ([]byte, error) {
	if plainBad(kind, row, ahead, bpp) {
		return nil, api.ErrForm
	}
	if len(row) == 0 {
		return nil, nil
	}
	g, at := two(row, ahead)
	return g.filtered(kind, at, bpp), nil
}

func plainUnfilter(kind int, row, ahead []byte, bpp int) ([]byte, error) {
	if plainBad(kind, row, ahead, bpp) {
		return nil, api.ErrForm
	}
	if len(row) == 0 {
		return nil, nil
	}
	g, at := two(row, ahead)
	g.unfilter(kind, at, bpp)
	return g[at:].bytes(), nil
}

func plainWeight(row []byte) int {
	sum := 0
	for _, x := range row {
		sum += min(int(x), 256-int(x))
	}
	return sum
}

func plainLightest(row, ahead []byte, bpp int) (int, error) {
	if plainBad(0, row, ahead, bpp) {
		return 0, api.ErrForm
	}
	var weights []int
	for kind := range 5 {
		filtered, _ := plainFilter(kind, row, ahead, bpp)
		weights = append(weights, plainWeight(filtered))
	}
	return slices.Index(weights, slices.Min(weights)), nil
}

func plainRoll(rows []byte, size, bpp int, kinds []int) ([]byte, error) {
	if size <= 0 || plainBad(0, nil, nil, bpp) || len(rows)%size > 0 || len(rows)/size != len(kinds) {
		return nil, api.ErrForm
	}
	for _, kind := range kinds {
		if !slices.Contains([]int{-1, 0, 1, 2, 3, 4}, kind) {
			return nil, api.ErrForm
		}
	}
	var out []byte
	g := gridOf(rows, size)
	for i, kind := range kinds {
		if kind == -1 {
			var ahead []byte
			if i > 0 {
				ahead = rows[(i-1)*size : i*size]
			}
			kind, _ = plainLightest(rows[i*size:(i+1)*size], ahead, bpp)
		}
		out = append(append(out, byte(kind)), g.filtered(kind, i, bpp)...)
	}
	return out, nil
}

func plainUnroll(b []byte, size, count, bpp int) ([]byte, error) {
	if size <= 0 || count <= 0 || plainBad(0, nil, nil, bpp) || size > 1048576 || count > 1048576 {
		return nil, api.ErrForm
	}
	var g grid
	at := 0
	for i := range count {
		if len(b)-at < 1+size {
			return nil, api.ErrEnd
		}
		if b[at] > 4 {
			return nil, api.ErrMalformed
		}
		g = append(g, gridOf(b[at+1:at+1+size], size)...)
		g.unfilter(int(b[at]), i, bpp)
		at += 1 + size
	}
	if at < len(b) {
		return nil, api.ErrMalformed
	}
	return g.bytes(), nil
}
