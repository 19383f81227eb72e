package lace

import (
	"bytes"
	"image"
	"image/color"
	"image/png"
	"math"
	"slices"
	"testing"

	"burnish/api"
	"burnish/chunk"
	"burnish/head"
	"burnish/squeeze"
)

// wrongSides is numbers that no side may be.
var wrongSides = []int{math.MinInt, math.MinInt + 1, -1 << 32, -65535, -8, -1, 0, 65536, 65537, 1 << 20, 1 << 32, 1<<32 + 8, 1 << 62, math.MaxInt}

// wrongPasses is numbers of no pass.
var wrongPasses = []int{math.MinInt, -1 << 32, -256, -8, -7, -1, 7, 8, 14, 255, 256, 1 << 32, 1<<32 + 1, math.MaxInt}

// wrongLaces is numbers that say neither laced nor not.
var wrongLaces = []int{math.MinInt, -1 << 32, -2, -1, 2, 3, 7, 255, 256, 257, 1 << 32, 1<<32 + 1, math.MaxInt}

// longSides is sides around all places modulo 8, up to both ends.
var longSides = []int{1, 2, 3, 4, 5, 6, 7, 8, 9, 100, 255, 256, 257, 32767, 32768, 32769, 65528, 65529, 65530, 65531, 65532, 65533, 65534, 65535}

type named struct {
	pass int
	size [2]int
}

func listed(width, height, lace int) []named {
	var out []named
	for pass, size := range Passes(width, height, lace) {
		out = append(out, named{pass, size})
	}
	return out
}

// P15.1: Size

func TestSizeExample(t *testing.T) {
	want := [7][2]int{{1, 1}, {1, 1}, {2, 1}, {2, 2}, {4, 2}, {4, 4}, {8, 4}}
	for pass, size := range want {
		if columns, rows := Size(8, 8, pass); [2]int{columns, rows} != size {
			t.Error(pass, columns, rows)
		}
	}
}

func TestSizeOfAllSmall(t *testing.T) {
	for width := 1; width <= 34; width++ {
		for height := 1; height <= 34; height++ {
			for pass := range 7 {
				columns, rows := Size(width, height, pass)
				wantColumns, wantRows := plainSize(width, height, pass, 1)
				if columns != wantColumns || rows != wantRows {
					t.Fatal(width, height, pass, columns, rows)
				}
			}
		}
	}
}

func TestSizeOfAllWidths(t *testing.T) {
	for pass := range 7 {
		columns, rows := columnsOf(pass, 65535), rowsOf(pass, 65535)
		n := 0
		for side := 1; side <= 65535; side++ {
			for n < len(columns) && columns[n] < side {
				n++
			}
			wantRows := len(rows)
			if n == 0 {
				wantRows = 0
			}
			if wide, high := Size(side, 65535, pass); wide != n || high != wantRows {
				t.Fatal(side, pass, wide, high)
			}
		}
		n = 0
		for side := 1; side <= 65535; side++ {
			for n < len(rows) && rows[n] < side {
				n++
			}
			wantColumns := len(columns)
			if n == 0 {
				wantColumns = 0
			}
			if wide, high := Size(65535, side, pass); wide != wantColumns || high != n {
				t.Fatal(side, pass, wide, high)
			}
		}
	}
}

func TestSizeWrong(t *testing.T) {
	check := func(width, height, pass int) {
		t.Helper()
		if columns, rows := Size(width, height, pass); columns != 0 || rows != 0 {
			t.Fatal(width, height, pass, columns, rows)
		}
	}
	for _, side := range wrongSides {
		for pass := range 7 {
			for _, other := range append(longSides, wrongSides...) {
				check(side, other, pass)
				check(other, side, pass)
			}
		}
	}
	for _, pass := range wrongPasses {
		for _, side := range longSides {
			check(side, side, pass)
			check(side, 65535, pass)
		}
	}
}

// P15.1: Passes

func TestPassesOfAllSmall(t *testing.T) {
	for width := 1; width <= 34; width++ {
		for height := 1; height <= 34; height++ {
			var want []named
			for pass := range 7 {
				if columns, rows := plainSize(width, height, pass, 1); columns > 0 {
					want = append(want, named{pass, [2]int{columns, rows}})
				}
			}
			if got := listed(width, height, 1); !slices.Equal(got, want) {
				t.Fatal(width, height, got)
			}
			if got := listed(width, height, 0); !slices.Equal(got, []named{{0, [2]int{width, height}}}) {
				t.Fatal(width, height, got)
			}
		}
	}
}

func TestPassesOfLong(t *testing.T) {
	for _, width := range longSides {
		for _, height := range longSides {
			var want []named
			for pass := range 7 {
				size := [2]int{len(columnsOf(pass, min(width, 264))), len(rowsOf(pass, min(height, 264)))}
				if width > 264 {
					size[0] += (width - 264) / 8 * len(columnsOf(pass, 8))
					size[0] += len(columnsOf(pass, width%8))
				}
				if height > 264 {
					size[1] += (height - 264) / 8 * len(rowsOf(pass, 8))
					size[1] += len(rowsOf(pass, height%8))
				}
				if min(size[0], size[1]) > 0 {
					want = append(want, named{pass, size})
				}
			}
			if got := listed(width, height, 1); !slices.Equal(got, want) {
				t.Fatal(width, height, got, want)
			}
			if got := listed(width, height, 0); !slices.Equal(got, []named{{0, [2]int{width, height}}}) {
				t.Fatal(width, height, got)
			}
		}
	}
}

func TestPassesWrong(t *testing.T) {
	for _, side := range wrongSides {
		for _, other := range append(longSides, wrongSides...) {
			for lace := range 2 {
				if got := listed(side, other, lace); got != nil {
					t.Fatal(side, other, lace, got)
				}
				if got := listed(other, side, lace); got != nil {
					t.Fatal(other, side, lace, got)
				}
			}
		}
	}
	for _, lace := range wrongLaces {
		for _, side := range longSides {
			if got := listed(side, 8, lace); got != nil {
				t.Fatal(side, lace, got)
			}
		}
	}
}

// A loop that is left behind each pass, and is begun again.
func TestPassesLeft(t *testing.T) {
	for lace := range 2 {
		for width := 1; width <= 17; width++ {
			all := listed(width, 9, lace)
			seq := Passes(width, 9, lace)
			for count := 1; count <= len(all); count++ {
				var got []named
				for pass, size := range seq {
					got = append(got, named{pass, size})
					if len(got) == count {
						break
					}
				}
				if !slices.Equal(got, all[:count]) {
					t.Fatal(width, lace, count, got)
				}
			}
		}
	}
}

// P15.1: Place

func TestPlaceAll(t *testing.T) {
	for pass := range 7 {
		columns, rows := columnsOf(pass, 8*65535), rowsOf(pass, 8*65535)
		for at := range 65535 {
			other := at * 7 % 65535
			if x, y := Place(pass, at, other); x != columns[at] || y != rows[other] {
				t.Fatal(pass, at, other, x, y)
			}
			if x, y := Place(pass, other, at); x != columns[other] || y != rows[at] {
				t.Fatal(pass, other, at, x, y)
			}
		}
		for _, corner := range [][2]int{{0, 0}, {0, 65534}, {65534, 0}, {65534, 65534}} {
			if x, y := Place(pass, corner[0], corner[1]); x != columns[corner[0]] || y != rows[corner[1]] {
				t.Fatal(pass, corner, x, y)
			}
		}
	}
}

func TestPlaceWrong(t *testing.T) {
	check := func(pass, column, row int) {
		t.Helper()
		if x, y := Place(pass, column, row); x != -1 || y != -1 {
			t.Fatal(pass, column, row, x, y)
		}
	}
	for _, pass := range wrongPasses {
		for _, at := range []int{0, 1, 8, 65534, 65535, -1} {
			check(pass, at, 0)
			check(pass, 0, at)
			check(pass, at, at)
		}
	}
	for pass := range 7 {
		for _, at := range []int{math.MinInt, -1 << 32, -8, -2, -1, 65535, 65536, 1 << 20, 1 << 32, 1 << 61, math.MaxInt} {
			for _, other := range []int{math.MinInt, -1, 0, 1, 65534, 65535, math.MaxInt} {
				check(pass, at, other)
				check(pass, other, at)
			}
		}
	}
}

// P15.1: Spread

func TestSpreadKnown(t *testing.T) {
	for _, x := range []struct {
		width, height, lace int
		want                []int
	}{
		{1, 1, 0, []int{0}}, {1, 1, 1, []int{0}},
		{3, 2, 0, []int{0, 1, 2, 3, 4, 5}}, {3, 2, 1, []int{0, 2, 1, 3, 4, 5}},
		{3, 3, 1, []int{0, 2, 6, 8, 1, 7, 3, 4, 5}},
		{9, 1, 1, []int{0, 8, 4, 2, 6, 1, 3, 5, 7}},
		{1, 9, 1, []int{0, 8, 4, 2, 6, 1, 3, 5, 7}},
	} {
		if got, err := Spread(x.width, x.height, x.lace); !slices.Equal(got, x.want) || err != nil {
			t.Error(x, got, err)
		}
	}
}

func checkSpread(t *testing.T, width, height int) {
	t.Helper()
	for lace := range 2 {
		if got, err := Spread(width, height, lace); !slices.Equal(got, plainSpread(width, height, lace)) || err != nil {
			t.Fatal(width, height, lace, err)
		}
	}
}

func TestSpreadAllSmall(t *testing.T) {
	for width := 1; width <= 34; width++ {
		for height := 1; height <= 34; height++ {
			checkSpread(t, width, height)
		}
	}
}

// Sides may be above 65535 here, as long as the product isn't above 2^18.
func TestSpreadLong(t *testing.T) {
	for _, size := range [][2]int{
		{512, 512}, {511, 513}, {1 << 18, 1}, {1<<18 - 1, 1}, {1 << 17, 2}, {1<<17 - 1, 2}, {87381, 3}, {65535, 4}, {65536, 4}, {65537, 3}, {52428, 5}, {1024, 256}, {29127, 9},
	} {
		checkSpread(t, size[0], size[1])
		checkSpread(t, size[1], size[0])
	}
}

func TestSpreadWrong(t *testing.T) {
	check := func(width, height, lace int) {
		t.Helper()
		if got, err := Spread(width, height, lace); got != nil || err != api.ErrForm {
			t.Fatal(width, height, lace, got, err)
		}
	}
	for lace := range 2 {
		for _, size := range [][2]int{
			{513, 512}, {1<<18 + 1, 1}, {1<<17 + 1, 2}, {87382, 3}, {52429, 5}, {65536, 5}, {65537, 4}, {1 << 18, 2}, {1 << 18, 1 << 18}, {65535, 65535},
			// The product is small, or 0, in 64 bits.
			{1 << 32, 1 << 32}, {1 << 62, 4}, {1 << 62, 8}, {1<<32 + 1, 1 << 32}, {math.MaxInt, 2}, {math.MaxInt, 3}, {math.MaxInt, math.MaxInt}, {1 << 63 / 3 * 2, 3},
		} {
			check(size[0], size[1], lace)
			check(size[1], size[0], lace)
		}
		for _, side := range []int{math.MinInt, math.MinInt + 1, -1 << 62, -1 << 32, -512, -1, 0} {
			for _, other := range []int{math.MinInt, -1 << 32, -512, -1, 0, 1, 4, 512, 1 << 18, 1 << 32, math.MaxInt} {
				check(side, other, lace)
				check(other, side, lace)
			}
		}
	}
	for _, lace := range wrongLaces {
		check(1, 1, lace)
		check(8, 8, lace)
		check(0, 8, lace)
	}
}

// P15.1: Data

func TestDataKnown(t *testing.T) {
	for _, x := range []struct {
		h    api.Head
		want int
	}{
		{api.Head{Width: 8, Height: 8, Depth: 8}, 72},
		{api.Head{Width: 8, Height: 8, Depth: 8, Lace: 1}, 79},
		{api.Head{Width: 9, Height: 2, Depth: 1}, 6},
		{api.Head{Width: 1, Height: 1, Depth: 16, Color: 6, Lace: 1}, 9},
		{api.Head{Width: 512, Height: 512, Depth: 16, Color: 6}, 512*512*8 + 512},
		{api.Head{Width: 512, Height: 512, Depth: 16, Color: 6, Lace: 1}, 512*512*8 + 64 + 64 + 64 + 128 + 128 + 256 + 256},
		{api.Head{Width: 1, Height: 65535, Depth: 1}, 2 * 65535},
		{api.Head{Width: 65535, Height: 4, Depth: 4, Color: 3}, 4 * 32769},
	} {
		if got := Data(x.h); got != x.want {
			t.Error(x, got)
		}
	}
}

func checkData(t *testing.T, width, height, lace int) {
	t.Helper()
	rows := plainRows(width, height, lace)
	for _, h := range heads(width, height, lace) {
		if got := Data(h); got != plainData(rows, h) {
			t.Fatal(h, got)
		}
	}
}

func TestDataOfAllSmall(t *testing.T) {
	for width := 1; width <= 18; width++ {
		for height := 1; height <= 18; height++ {
			checkData(t, width, height, 0)
			checkData(t, width, height, 1)
		}
	}
}

func TestDataOfLong(t *testing.T) {
	for _, size := range [][2]int{{65535, 4}, {65535, 1}, {65534, 3}, {512, 512}, {32769, 7}, {29127, 9}} {
		for lace := range 2 {
			checkData(t, size[0], size[1], lace)
			checkData(t, size[1], size[0], lace)
		}
	}
}

func TestDataWrong(t *testing.T) {
	good := api.Head{Width: 5, Height: 5, Depth: 8, Color: 2, Lace: 1}
	var wrong []api.Head
	change := func(do func(h *api.Head)) {
		h := good
		do(&h)
		wrong = append(wrong, h)
	}
	for _, side := range wrongSides {
		change(func(h *api.Head) { h.Width = side })
		change(func(h *api.Head) { h.Height = side })
		change(func(h *api.Head) { h.Width, h.Height = side, side })
	}
	for _, size := range [][2]int{{513, 512}, {65535, 5}, {65535, 65535}, {1 << 18, 1}} {
		change(func(h *api.Head) { h.Width, h.Height = size[0], size[1] })
		change(func(h *api.Head) { h.Width, h.Height = size[1], size[0] })
	}
	for _, n := range []int{math.MinInt, -1, 0, 1, 2, 3, 4, 5, 7, 9, 12, 15, 17, 24, 32, 1<<32 + 8, math.MaxInt} {
		change(func(h *api.Head) { h.Depth = n })
	}
	for _, n := range []int{math.MinInt, -1, 1, 5, 7, 8, 255, 1<<32 + 2, math.MaxInt} {
		change(func(h *api.Head) { h.Color = n })
	}
	change(func(h *api.Head) { h.Color, h.Depth = api.Palette, 16 })
	change(func(h *api.Head) { h.Color, h.Depth = api.GreyAlpha, 4 })
	for _, n := range wrongLaces {
		change(func(h *api.Head) { h.Lace = n })
	}
	wrong = append(wrong, api.Head{})
	for _, h := range wrong {
		if got := Data(h); got != 0 {
			t.Error(h, got)
		}
	}
}

// P15.2

func TestEachPixelOnce(t *testing.T) {
	for _, size := range [][2]int{{1, 1}, {1, 2}, {2, 1}, {3, 3}, {4, 4}, {5, 5}, {7, 9}, {8, 8}, {9, 7}, {16, 16}, {33, 31}, {1, 700}, {700, 1}, {200, 100}, {512, 512}, {65535, 4}, {4, 65535}} {
		times := map[[2]int]int{}
		for pass, part := range Passes(size[0], size[1], 1) {
			for row := range part[1] {
				for column := range part[0] {
					x, y := Place(pass, column, row)
					if x >= size[0] || y >= size[1] {
						t.Fatal(size, pass, column, row, x, y)
					}
					times[[2]int{x, y}]++
				}
			}
		}
		if len(times) != size[0]*size[1] {
			t.Fatal(size, len(times))
		}
		for at, n := range times {
			if n != 1 {
				t.Fatal(size, at, n)
			}
		}
		for lace := range 2 {
			places, err := Spread(size[0], size[1], lace)
			slices.Sort(places)
			if err != nil || len(places) != size[0]*size[1] {
				t.Fatal(size, lace, err)
			}
			for at, place := range places {
				if at != place {
					t.Fatal(size, lace, at, place)
				}
			}
		}
	}
}

// laced is a PNG of grey pixels that is laced by Spread and Passes.
func laced(t *testing.T, h api.Head, grey []byte) []byte {
	t.Helper()
	places, err := Spread(h.Width, h.Height, h.Lace)
	if err != nil {
		t.Fatal(err)
	}
	var rows []byte
	for _, size := range Passes(h.Width, h.Height, h.Lace) {
		for range size[1] {
			rows = append(rows, 0)
			for range size[0] {
				rows = append(rows, grey[places[0]])
				places = places[1:]
			}
		}
	}
	if len(rows) != Data(h) || len(places) != 0 {
		t.Fatal(h, len(rows), len(places))
	}
	first, err := head.Put(h)
	if err != nil {
		t.Fatal(err)
	}
	packed, err := squeeze.Wrapped(rows, 0)
	if err != nil {
		t.Fatal(err)
	}
	file, err := chunk.Write([]api.Chunk{{Name: "IHDR", Data: first}, {Name: "IDAT", Data: packed}, {Name: "IEND"}})
	if err != nil {
		t.Fatal(err)
	}
	return file
}

// The library reads what is laced.
func TestLibraryReads(t *testing.T) {
	seed := uint64(15)
	for width := 1; width <= 19; width++ {
		for height := 1; height <= 19; height++ {
			grey := make([]byte, width*height)
			for i := range grey {
				grey[i] = byte(pick(&seed, 256))
			}
			for lace := range 2 {
				file := laced(t, api.Head{Width: width, Height: height, Depth: 8, Lace: lace}, grey)
				img, err := png.Decode(bytes.NewReader(file))
				if err != nil || img.Bounds() != image.Rect(0, 0, width, height) {
					t.Fatal(width, height, lace, err)
				}
				for i, want := range grey {
					if got := img.At(i%width, i/width); got != (color.Gray{Y: want}) {
						t.Fatal(width, height, lace, i, got)
					}
				}
			}
		}
	}
}

// P15.3

func TestSpreadIsNew(t *testing.T) {
	for lace := range 2 {
		one, _ := Spread(11, 13, lace)
		two, _ := Spread(11, 13, lace)
		one = one[:cap(one)]
		for i := range one {
			one[i] = -7
		}
		three, err := Spread(11, 13, lace)
		if want := plainSpread(11, 13, lace); !slices.Equal(two, want) || !slices.Equal(three, want) || err != nil {
			t.Fatal(lace, two, three, err)
		}
	}
}

// What is done to a pass's size isn't seen by another loop.
func TestPassesAreNew(t *testing.T) {
	seq := Passes(20, 20, 1)
	for _, size := range seq {
		size[0], size[1] = -1, -1
	}
	for pass, size := range seq {
		if columns, rows := plainSize(20, 20, pass, 1); size != [2]int{columns, rows} {
			t.Fatal(pass, size)
		}
		for other, inner := range seq {
			if columns, rows := plainSize(20, 20, other, 1); inner != [2]int{columns, rows} {
				t.Fatal(pass, other, inner)
			}
		}
	}
}
