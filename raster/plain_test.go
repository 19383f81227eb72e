package raster

import (
	"slices"
	"strings"

	"burnish/api"
)

// Here is what the tests hold the package against: a letter for each number of a pixel, numbers as texts of 0 and 1, eight rows of eight passes as the standard of PNGs draws them (from 1 on there), and rows of bytes with zeros wherever nothing is.

// pick is a number from 0 to n-1, the same each time for a seed.
func pick(seed *uint64, n int) int {
	*seed = *seed*6364136223846793005 + 1442695040888963407
	return int((*seed >> 33) % uint64(n))
}

// letters is what the numbers of a pixel are: y for grey, i for an index.
var letters = map[int]string{0: "y", 2: "rgb", 3: "i", 4: "ya", 6: "rgba"}

// sorts is a head of one pixel of each color type and depth.
func sorts() []api.Head {
	var out []api.Head
	for color, depths := range map[int][]int{0: {1, 2, 4, 8, 16}, 2: {8, 16}, 3: {1, 2, 4, 8}, 4: {8, 16}, 6: {8, 16}} {
		for _, depth := range depths {
			out = append(out, api.Head{Width: 1, Height: 1, Depth: depth, Color: color})
		}
	}
	slices.SortFunc(out, func(a, b api.Head) int { return 100*a.Color + a.Depth - 100*b.Color - b.Depth })
	return out
}

// sized is a head with other sides and another lace.
func sized(h api.Head, width, height, laced int) api.Head {
	h.Width, h.Height, h.Lace = width, height, laced
	return h
}

// text is the bits of a number, its highest first.
func text(n, count int) string {
	out := make([]byte, count)
	for i := range out {
		out[i] = '0' + byte(n>>(count-1-i)&1)
	}
	return string(out)
}

// number is what a text of bits stands for.
func number(text string) int {
	n := 0
	for _, r := range text {
		n = 2*n + int(r-'0')
	}
	return n
}

// plainWide widens a number by repeating its bits.
func plainWide(n, depth int) int {
	return number(strings.Repeat(text(n, depth), 16/depth))
}

// plainNarrow is all numbers of a depth by what they are widened to.
var plainNarrow = func() map[int]map[int]int {
	out := map[int]map[int]int{}
	for _, depth := range []int{1, 2, 4, 8, 16} {
		out[depth] = map[int]int{}
		for n := range 1 << depth {
			out[depth][plainWide(n, depth)] = n
		}
	}
	return out
}()

func plainCheck(f Form) error {
	h := f.Head
	same := func(s api.Head) bool { return s.Color == h.Color && s.Depth == h.Depth }
	if !slices.ContainsFunc(sorts(), same) || min(h.Width, h.Height) < 1 || max(h.Width, h.Height) > 65535 || h.Width*h.Height > 262144 || h.Lace != 0 && h.Lace != 1 {
		return api.ErrForm
	}
	if h.Color == 3 && (len(f.Palette) == 0 || len(f.Palette) > 1<<h.Depth) || h.Color != 3 && len(f.Palette) > 0 {
		return api.ErrForm
	}
	for _, p := range f.Palette {
		for _, n := range []int{p.R, p.G, p.B, p.A} {
			if _, ok := plainNarrow[8][n]; !ok {
				return api.ErrForm
			}
		}
	}
	if len(f.Key) > 0 && (h.Color != 0 && h.Color != 2 || len(f.Key) != len(letters[h.Color])) {
		return api.ErrForm
	}
	for _, n := range f.Key {
		if n < 0 || n > number(strings.Repeat("1", h.Depth)) {
			return api.ErrForm
		}
	}
	return nil
}

// plainPixel is a pixel of a good form.
func plainPixel(f Form, numbers []int) (api.Pixel, bool) {
	if len(numbers) != len(letters[f.Head.Color]) {
		return api.Pixel{}, false
	}
	for _, n := range numbers {
		if n < 0 || n > number(strings.Repeat("1", f.Head.Depth)) || f.Head.Color == 3 && n >= len(f.Palette) {
			return api.Pixel{}, false
		}
	}
	if f.Head.Color == 3 {
		return f.Palette[numbers[0]], true
	}
	p := api.Pixel{A: 65535}
	if len(f.Key) > 0 && slices.Equal(f.Key, numbers) {
		p.A = 0
	}
	for i, letter := range letters[f.Head.Color] {
		wide := plainWide(numbers[i], f.Head.Depth)
		switch letter {
		case 'y':
			p.R, p.G, p.B = wide, wide, wide
		case 'r':
			p.R = wide
		case 'g':
			p.G = wide
		case 'b':
			p.B = wide
		case 'a':
			p.A = wide
		}
	}
	return p, true
}

// plainNumbers is the numbers of a pixel in a good form.
func plainNumbers(f Form, p api.Pixel) ([]int, bool) {
	if f.Head.Color == 3 {
		for i, q := range f.Palette {
			if p.R == q.R && p.G == q.G && p.B == q.B && p.A == q.A {
				return []int{i}, true
			}
		}
		return nil, false
	}
	names := letters[f.Head.Color]
	if names[0] == 'y' && (p.R != p.G || p.G != p.B) {
		return nil, false
	}
	var out []int
	for _, letter := range names {
		wide := map[rune]int{'y': p.R, 'r': p.R, 'g': p.G, 'b': p.B, 'a': p.A}[letter]
		n, ok := plainNarrow[f.Head.Depth][wide]
		if !ok {
			return nil, false
		}
		out = append(out, n)
	}
	if !strings.Contains(names, "a") {
		keyed := len(f.Key) > 0 && slices.Equal(f.Key, out)
		if keyed && p.A != 0 || !keyed && p.A != 65535 {
			return nil, false
		}
	}
	return out, true
}

var drawn = [8]string{
	"05351535",
	"66666666",
	"45454545",
	"66666666",
	"25352535",
	"66666666",
	"45454545",
	"66666666",
}

// plainPasses is the places of all pixels, pass by pass and row by row, without what is empty.
func plainPasses(h api.Head) [][][]int {
	var out [][][]int
	for pass := range 7 {
		var rows [][]int
		for y := range h.Height {
			var row []int
			for x := range h.Width {
				if h.Lace == 0 && pass == 0 || h.Lace == 1 && int(drawn[y%8][x%8]-'0') == pass {
					row = append(row, y*h.Width+x)
				}
			}
			if row != nil {
				rows = append(rows, row)
			}
		}
		if rows != nil {
			out = append(out, rows)
		}
	}
	return out
}

// plainForetell is what is foretold of a byte of a row.
func plainForetell(kind int, row, ahead []byte, at, size int) int {
	a, b, c := 0, int(ahead[at]), 0
	if at >= size {
		a, c = int(row[at-size]), int(ahead[at-size])
	}
	switch kind {
	case 1:
		return a
	case 2:
		return b
	case 3:
		return (a + b) / 2
	case 4:
		from := func(x int) int { return max(a+b-c-x, x-a-b+c) }
		return slices.MinFunc([]int{a, b, c}, func(x, y int) int { return from(x) - from(y) })
	}
	return 0
}

// plainPixelSize is the bytes of a pixel, at least 1.
func plainPixelSize(h api.Head) int {
	return max(len(letters[h.Color])*h.Depth, 8) / 8
}

// plainFilter is a row filtered, with its kind; -1 is the lightest.
func plainFilter(kind int, row, ahead []byte, size int) []byte {
	if kind == -1 {
		return plainLightest(row, ahead, size)
	}
	out := []byte{byte(kind)}
	for at, x := range row {
		out = append(out, x-byte(plainForetell(kind, row, ahead, at, size)))
	}
	return out
}

func plainLightest(row, ahead []byte, size int) []byte {
	weight := func(b []byte) int {
		sum := 0
		for _, x := range b[1:] {
			sum += min(int(x), 256-int(x))
		}
		return sum
	}
	var all [][]byte
	for kind := range 5 {
		all = append(all, plainFilter(kind, row, ahead, size))
	}
	return slices.MinFunc(all, func(a, b []byte) int { return weight(a) - weight(b) })
}

// plainRow is the bytes of numbers.
func plainRow(numbers []int, depth int) []byte {
	var bits strings.Builder
	for _, n := range numbers {
		bits.WriteString(text(n, depth))
	}
	bits.WriteString(strings.Repeat("0", (8-bits.Len()%8)%8))
	var out []byte
	for all := bits.String(); len(all) > 0; all = all[8:] {
		out = append(out, byte(number(all[:8])))
	}
	return out
}

// plainPack is the rows of a raster that a good form holds, each with the next kind.
func plainPack(f Form, r api.Raster, kind func() int) []byte {
	var out []byte
	for _, pass := range plainPasses(f.Head) {
		var ahead []byte
		for _, places := range pass {
			var numbers []int
			for _, place := range places {
				n, _ := plainNumbers(f, r.Pixels[place])
				numbers = append(numbers, n...)
			}
			row := plainRow(numbers, f.Head.Depth)
			if ahead == nil {
				ahead = make([]byte, len(row))
			}
			out = append(out, plainFilter(kind(), row, ahead, plainPixelSize(f.Head))...)
			ahead = row
		}
	}
	return out
}

// plainRead is the pixels of a row of bytes.
func plainRead(f Form, row []byte, count int) ([]api.Pixel, bool) {
	var bits strings.Builder
	for _, x := range row {
		bits.WriteString(text(int(x), 8))
	}
	all := bits.String()
	var out []api.Pixel
	for range count {
		var numbers []int
		for range letters[f.Head.Color] {
			numbers = append(numbers, number(all[:f.Head.Depth]))
			all = all[f.Head.Depth:]
		}
		p, ok := plainPixel(f, numbers)
		if !ok {
			return nil, false
		}
		out = append(out, p)
	}
	return out, true
}

// plainUnpack is the raster of rows in a good form.
func plainUnpack(f Form, data []byte) (api.Raster, error) {
	pixels := make([]api.Pixel, f.Head.Width*f.Head.Height)
	for _, pass := range plainPasses(f.Head) {
		var ahead []byte
		for _, places := range pass {
			size := (len(places)*len(letters[f.Head.Color])*f.Head.Depth + 7) / 8
			if len(data) < 1+size || data[0] > 4 {
				return api.Raster{}, api.ErrMalformed
			}
			if ahead == nil {
				ahead = make([]byte, size)
			}
			row := slices.Clone(data[1 : 1+size])
			for at := range row {
				row[at] += byte(plainForetell(int(data[0]), row, ahead, at, plainPixelSize(f.Head)))
			}
			read, ok := plainRead(f, row, len(places))
			if !ok {
				return api.Raster{}, api.ErrMalformed
			}
			for i, place := range places {
				pixels[place] = read[i]
			}
			data, ahead = data[1+size:], row
		}
	}
	if len(data) > 0 {
		return api.Raster{}, api.ErrMalformed
	}
	return api.Raster{Width: f.Head.Width, Height: f.Head.Height, Pixels: pixels}, nil
}

// someEntry is a pixel that a palette can have.
func someEntry(seed *uint64) api.Pixel {
	var n [4]int
	for i := range n {
		n[i] = 257 * []int{0, 1, 127, 128, 255, pick(seed, 256)}[pick(seed, 6)]
	}
	return api.Pixel{R: n[0], G: n[1], B: n[2], A: n[3]}
}

// someNumbers is the numbers of a pixel in a good form.
func someNumbers(seed *uint64, f Form) []int {
	if f.Head.Color == 3 {
		return []int{pick(seed, len(f.Palette))}
	}
	if len(f.Key) > 0 && pick(seed, 3) == 0 {
		return slices.Clone(f.Key)
	}
	top := 1<<f.Head.Depth - 1
	var out []int
	for range letters[f.Head.Color] {
		out = append(out, []int{0, top, pick(seed, top+1), pick(seed, top+1)}[pick(seed, 4)])
	}
	return out
}

// someForm is a good form with a head.
func someForm(seed *uint64, h api.Head) Form {
	f := Form{Head: h}
	if h.Color == 3 {
		for range 1 + pick(seed, 1<<h.Depth) {
			f.Palette = append(f.Palette, someEntry(seed))
		}
	}
	if (h.Color == 0 || h.Color == 2) && pick(seed, 2) == 0 {
		f.Key = someNumbers(seed, f)
	}
	return f
}

// someRaster is a raster that a good form holds, some of it smooth and some of it not.
func someRaster(seed *uint64, f Form) api.Raster {
	r := api.Raster{Width: f.Head.Width, Height: f.Head.Height}
	last, _ := plainPixel(f, someNumbers(seed, f))
	for range r.Width * r.Height {
		if pick(seed, 3) > 0 {
			last, _ = plainPixel(f, someNumbers(seed, f))
		}
		r.Pixels = append(r.Pixels, last)
	}
	return r
}

// always is that kind for all rows.
func always(kind int) func() int {
	return func() int { return kind }
}
