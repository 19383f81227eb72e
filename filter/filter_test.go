package filter

import (
	"bytes"
	"compress/zlib"
	"encoding/binary"
	"image"
	"image/color"
	"image/png"
	"io"
	"math"
	"slices"
	"testing"

	"burnish/api"
)

// wrongKinds is numbers that no function takes as a kind.
var wrongKinds = []int{math.MinInt, -1 << 32, -256, -2, 5, 6, 255, 256, 257, 260, 1 << 32, 1<<32 + 1, math.MaxInt}

// wrongSizes is numbers outside of what bpp may be; for sizes and counts those up to 0 are wrong, too.
var wrongSizes = []int{math.MinInt, -1 << 32, -8, -1, 0, 9, 10, 16, 256, 257, 1<<32 + 1, math.MaxInt}

// checkRow holds Filter, Unfilter and, for kind 0, Lightest against what they should be.
func checkRow(t *testing.T, kind int, row, ahead []byte, bpp int) {
	t.Helper()
	want, wantErr := plainFilter(kind, row, ahead, bpp)
	out, err := Filter(kind, row, ahead, bpp)
	if !bytes.Equal(out, want) || err != wantErr || err != nil && out != nil {
		t.Fatalf("kind %d, %x, %x, %d: %x, %v; want %x, %v", kind, row, ahead, bpp, out, err, want, wantErr)
	}
	if back, err := Unfilter(kind, out, ahead, bpp); wantErr == nil && (!bytes.Equal(back, row) || err != nil) {
		t.Fatalf("kind %d, %x, %x, %d: back %x, %v", kind, row, ahead, bpp, back, err)
	}
	want, wantErr = plainUnfilter(kind, row, ahead, bpp)
	out, err = Unfilter(kind, row, ahead, bpp)
	if !bytes.Equal(out, want) || err != wantErr || err != nil && out != nil {
		t.Fatalf("un, kind %d, %x, %x, %d: %x, %v; want %x, %v", kind, row, ahead, bpp, out, err, want, wantErr)
	}
	if again, err := Filter(kind, out, ahead, bpp); wantErr == nil && (!bytes.Equal(again, row) || err != nil) {
		t.Fatalf("un, kind %d, %x, %x, %d: again %x, %v", kind, row, ahead, bpp, again, err)
	}
	if kind == 0 {
		checkLightest(t, row, ahead, bpp)
	}
}

func checkLightest(t *testing.T, row, ahead []byte, bpp int) {
	t.Helper()
	want, wantErr := plainLightest(row, ahead, bpp)
	if kind, err := Lightest(row, ahead, bpp); kind != want || err != wantErr {
		t.Fatalf("%x, %x, %d: lightest %d, %v; want %d, %v", row, ahead, bpp, kind, err, want, wantErr)
	}
}

// checkRoll holds Roll, and Unroll of what it answers, against what they should be.
func checkRoll(t *testing.T, rows []byte, size, bpp int, kinds []int) {
	t.Helper()
	want, wantErr := plainRoll(rows, size, bpp, kinds)
	out, err := Roll(rows, size, bpp, kinds)
	if !bytes.Equal(out, want) || err != wantErr || err != nil && out != nil {
		t.Fatalf("%x, %d, %d, %v: %x, %v; want %x, %v", rows, size, bpp, kinds, out, err, want, wantErr)
	}
	if err != nil || len(kinds) == 0 {
		return
	}
	if back, err := Unroll(out, size, len(kinds), bpp); !bytes.Equal(back, rows) || err != nil {
		t.Fatalf("%x, %d, %d, %v: back %x, %v", rows, size, bpp, kinds, back, err)
	}
}

func checkUnroll(t *testing.T, b []byte, size, count, bpp int) {
	t.Helper()
	want, wantErr := plainUnroll(b, size, count, bpp)
	out, err := Unroll(b, size, count, bpp)
	if !bytes.Equal(out, want) || err != wantErr || err != nil && out != nil {
		t.Fatalf("%x, %d, %d, %d: %x, %v; want %x, %v", b, size, count, bpp, out, err, want, wantErr)
	}
}

// P14.1: Foretell

func TestForetellAll(t *testing.T) {
	step := 1
	if testing.Short() {
		step = 5
	}
	for a := 0; a < 256; a += step {
		for b := range 256 {
			for _, c := range []int{0, 1, 2, 3, 100, 127, 128, 129, 200, 254, 255, a, b, (a + b) / 2, (a + b + 1) / 2, a / 2, b / 2, (a + b) % 256, (256 + a - b) % 256} {
				for kind := range 5 {
					if p := Foretell(kind, byte(a), byte(b), byte(c)); int(p) != plainForetell(kind, a, b, c) {
						t.Fatal(kind, a, b, c, p)
					}
				}
			}
		}
	}
}

func TestForetellNearest(t *testing.T) {
	for a := range 256 {
		for b := range 256 {
			for c := range 256 {
				if p := Foretell(4, byte(a), byte(b), byte(c)); int(p) != plainForetell(4, a, b, c) {
					t.Fatal(a, b, c, p)
				}
			}
		}
	}
}

func TestForetellKnown(t *testing.T) {
	for _, x := range []struct {
		kind          int
		a, b, c, want byte
	}{
		{0, 1, 2, 3, 0}, {1, 7, 8, 9, 7}, {2, 7, 8, 9, 8},
		{3, 0, 1, 9, 0}, {3, 1, 2, 9, 1}, {3, 255, 255, 0, 255}, {3, 128, 128, 0, 128},
		// The aim is beyond what a byte holds.
		{4, 255, 255, 0, 255}, {4, 0, 0, 255, 0}, {4, 200, 100, 0, 200}, {4, 10, 20, 200, 10}, {4, 20, 10, 200, 10},
		// Two are equally near: a goes before b, and b before c.
		{4, 10, 14, 12, 12}, {4, 3, 5, 5, 3}, {4, 5, 3, 5, 3}, {4, 0, 3, 2, 0}, {4, 3, 0, 2, 0}, {4, 5, 5, 0, 5},
		{4, 4, 6, 2, 6}, {4, 1, 3, 2, 2}, {4, 6, 0, 4, 0}, {4, 0, 6, 4, 0},
	} {
		if p := Foretell(x.kind, x.a, x.b, x.c); p != x.want {
			t.Error(x, p)
		}
	}
}

func TestForetellOtherKinds(t *testing.T) {
	for _, kind := range append([]int{-1}, wrongKinds...) {
		if p := Foretell(kind, 5, 6, 7); p != 0 {
			t.Error(kind, p)
		}
	}
}

// P14.1: Filter, Unfilter

func TestFilterKnown(t *testing.T) {
	for _, x := range []struct {
		kind             int
		row, ahead, want []byte
		bpp              int
	}{
		{1, []byte{1, 3, 6}, nil, []byte{1, 2, 3}, 1},
		{0, []byte{1, 3, 6}, []byte{9, 9, 9}, []byte{1, 3, 6}, 1},
		{1, []byte{1, 3, 6, 10, 15}, nil, []byte{1, 3, 5, 7, 9}, 2},
		{2, []byte{1, 3, 6}, []byte{2, 2, 2}, []byte{255, 1, 4}, 1},
		{2, []byte{1, 3, 6}, nil, []byte{1, 3, 6}, 1},
		{3, []byte{10, 10, 10}, []byte{5, 20, 255}, []byte{8, 251, 134}, 1},
		{3, []byte{10, 10, 10}, nil, []byte{10, 5, 5}, 1},
		{4, []byte{10, 10, 10}, []byte{5, 20, 255}, []byte{5, 246, 11}, 1},
		{4, []byte{1, 3, 6}, nil, []byte{1, 2, 3}, 1},
		{1, []byte{0, 255, 1}, nil, []byte{0, 255, 2}, 1},
		{1, []byte{7}, nil, []byte{7}, 8},
		{1, nil, nil, nil, 1},
	} {
		if out, err := Filter(x.kind, x.row, x.ahead, x.bpp); !bytes.Equal(out, x.want) || err != nil {
			t.Error(x, out, err)
		}
		checkRow(t, x.kind, x.row, x.ahead, x.bpp)
	}
}

// each calls do with all texts of that many bytes, each of which is one of those given.
func each(size int, of []byte, do func(b []byte)) {
	b := make([]byte, size)
	var from func(at int)
	from = func(at int) {
		if at == size {
			do(b)
			return
		}
		for _, b[at] = range of {
			from(at + 1)
		}
	}
	from(0)
}

func TestShortRows(t *testing.T) {
	of := []byte{0, 1, 127, 128, 255}
	for size := range 4 {
		each(size, of, func(row []byte) {
			row = slices.Clone(row)
			for kind := range 5 {
				for bpp := 1; bpp <= 4; bpp++ {
					checkRow(t, kind, row, nil, bpp)
				}
			}
			each(size, of, func(ahead []byte) {
				for kind := range 5 {
					checkRow(t, kind, row, ahead, 1+size%2)
				}
			})
		})
	}
}

func TestEachSize(t *testing.T) {
	seed := uint64(3)
	for size := range 70 {
		for bpp := 1; bpp <= 8; bpp++ {
			for kind := range 5 {
				row, ahead := someBytes(&seed, size), someBytes(&seed, size)
				checkRow(t, kind, row, ahead, bpp)
				checkRow(t, kind, row, nil, bpp)
				checkRow(t, kind, row, make([]byte, size), bpp)
				checkRow(t, kind, row, row, bpp)
			}
		}
	}
	for _, size := range []int{255, 256, 4097, 70000} {
		for kind := range 5 {
			checkRow(t, kind, someBytes(&seed, size), someBytes(&seed, size), 1+pick(&seed, 8))
		}
	}
}

func TestNoRowIsZeros(t *testing.T) {
	seed := uint64(4)
	for size := range 30 {
		row := someBytes(&seed, size)
		for kind := range 5 {
			one, errOne := Filter(kind, row, nil, 3)
			two, errTwo := Filter(kind, row, make([]byte, size), 3)
			three, errThree := Filter(kind, row, []byte{}, 3)
			if !bytes.Equal(one, two) || !bytes.Equal(one, three) || errOne != nil || errTwo != nil || errThree != nil {
				t.Fatal(kind, row, one, two, three)
			}
		}
	}
}

func TestWrongRows(t *testing.T) {
	row := []byte{1, 2, 3, 4, 5}
	for _, kind := range append([]int{-1}, wrongKinds...) {
		for _, row := range [][]byte{row, nil} {
			checkRow(t, kind, row, nil, 1)
			checkRow(t, kind, row, row, 8)
		}
	}
	for _, bpp := range wrongSizes {
		for kind := range 5 {
			for _, row := range [][]byte{row, nil} {
				checkRow(t, kind, row, nil, bpp)
				checkRow(t, kind, row, row, bpp)
			}
		}
	}
	for size := range 12 {
		for there := range 12 {
			for kind := range 5 {
				checkRow(t, kind, make([]byte, size), make([]byte, there), 1)
			}
		}
	}
	if _, err := Filter(1, nil, row, 1); err != api.ErrForm {
		t.Error(err)
	}
	if kind, err := Lightest([]byte{1, 2, 3, 4}, row, 1); kind != 0 || err != api.ErrForm {
		t.Error(kind, err)
	}
}

// P14.1: Weight, Lightest

func TestWeight(t *testing.T) {
	for x := range 256 {
		want := x
		if x >= 128 {
			want = 256 - x
		}
		if w := Weight([]byte{byte(x)}); w != want {
			t.Error(x, w)
		}
	}
	seed := uint64(5)
	for size := range 300 {
		row := someBytes(&seed, size)
		if w := Weight(row); w != plainWeight(row) {
			t.Fatal(row, w)
		}
	}
	if w := Weight(bytes.Repeat([]byte{128}, 1<<20)); w != 1<<27 {
		t.Error(w)
	}
	if Weight(nil) != 0 {
		t.Error("nothing weighs nothing")
	}
}

func TestLightestKnown(t *testing.T) {
	for _, x := range []struct {
		row, ahead []byte
		bpp, want  int
	}{
		{nil, nil, 1, 0},
		{[]byte{0, 0, 0}, nil, 1, 0},
		{[]byte{0, 0, 0}, []byte{0, 0, 0}, 1, 0},
		{[]byte{9}, nil, 1, 0},
		{[]byte{9, 9}, nil, 1, 1},
		{[]byte{9, 9}, nil, 2, 0},
		{[]byte{9, 90, 9}, []byte{9, 90, 9}, 1, 2},
		{[]byte{9, 9, 9}, []byte{9, 9, 9}, 1, 2},
		{[]byte{8, 14, 17}, []byte{16, 20, 20}, 1, 3},
		{[]byte{20, 30, 50, 40}, []byte{20, 30, 50, 40}, 1, 2},
		{[]byte{100, 110, 150, 145}, []byte{100, 110, 150, 144}, 1, 2},
		{[]byte{50, 60, 60, 60}, []byte{50, 60, 120, 120}, 1, 1},
		{[]byte{50, 60, 70, 170}, []byte{50, 50, 50, 150}, 1, 4},
		{[]byte{128, 128}, nil, 8, 0},
		{[]byte{255, 255, 255}, nil, 8, 0},
	} {
		checkLightest(t, x.row, x.ahead, x.bpp)
		if kind, err := Lightest(x.row, x.ahead, x.bpp); kind != x.want || err != nil {
			t.Error(x, kind, err)
		}
	}
}

func TestLightestOfMany(t *testing.T) {
	seed := uint64(6)
	var times [5]int
	for range 20000 {
		size := 1 + pick(&seed, 12)
		row, ahead, bpp := someBytes(&seed, size), someBytes(&seed, size), 1+pick(&seed, 8)
		checkLightest(t, row, ahead, bpp)
		kind, _ := Lightest(row, ahead, bpp)
		times[kind]++
		checkLightest(t, row, nil, bpp)
	}
	if slices.Min(times[:]) < 100 {
		t.Error(times)
	}
}

// P14.1, P14.2: Roll, Unroll

func TestRollKnown(t *testing.T) {
	rows := []byte{1, 3, 6, 1, 3, 6, 2, 4, 7}
	for _, x := range []struct {
		kinds []int
		want  []byte
	}{
		{[]int{0, 0, 0}, []byte{0, 1, 3, 6, 0, 1, 3, 6, 0, 2, 4, 7}},
		{[]int{1, 2, 2}, []byte{1, 1, 2, 3, 2, 0, 0, 0, 2, 1, 1, 1}},
		{[]int{-1, -1, -1}, []byte{1, 1, 2, 3, 2, 0, 0, 0, 2, 1, 1, 1}},
		{[]int{2, 1, 4}, []byte{2, 1, 3, 6, 1, 1, 2, 3, 4, 1, 1, 1}},
	} {
		if out, err := Roll(rows, 3, 1, x.kinds); !bytes.Equal(out, x.want) || err != nil {
			t.Error(x, out, err)
		}
		checkRoll(t, rows, 3, 1, x.kinds)
	}
	if out, err := Roll(nil, 7, 1, nil); len(out) > 0 || err != nil {
		t.Error(out, err)
	}
}

// someKinds is that many kinds, lightest ones among them.
func someKinds(seed *uint64, count int) []int {
	kinds := make([]int, count)
	for i := range kinds {
		kinds[i] = pick(seed, 6) - 1
	}
	return kinds
}

func TestAllKinds(t *testing.T) {
	seed := uint64(7)
	for range 3 {
		each(4, []byte{0, 1, 2, 3, 4, 5}, func(b []byte) {
			kinds := make([]int, len(b))
			for i, k := range b {
				kinds[i] = int(k) - 1
			}
			size := 1 + pick(&seed, 20)
			checkRoll(t, someBytes(&seed, len(kinds)*size), size, 1+pick(&seed, 8), kinds)
		})
	}
}

func TestManyRolls(t *testing.T) {
	seed := uint64(8)
	for range 5000 {
		size, count := 1+pick(&seed, 24), pick(&seed, 12)
		checkRoll(t, someBytes(&seed, size*count), size, 1+pick(&seed, 8), someKinds(&seed, count))
	}
	for _, sides := range [][2]int{{1, 3000}, {3000, 1}, {1 << 20, 1}, {1<<20 - 1, 2}, {1, 1 << 18}, {65535, 4}} {
		size, count := sides[0], sides[1]
		checkRoll(t, someBytes(&seed, size*count), size, 1+pick(&seed, 8), someKinds(&seed, count))
	}
}

func TestWrongRolls(t *testing.T) {
	seed := uint64(9)
	rows := someBytes(&seed, 12)
	for size := -3; size <= 14; size++ {
		for count := range 15 {
			checkRoll(t, rows, size, 1, make([]int, count))
			checkRoll(t, nil, size, 1, make([]int, count))
		}
	}
	for _, n := range wrongSizes {
		checkRoll(t, rows, 4, n, []int{0, 0, 0})
		checkRoll(t, rows, n, 4, []int{0, 0, 0})
		checkRoll(t, nil, 4, n, nil)
		checkRoll(t, nil, n, 4, nil)
		checkRoll(t, rows, n, n, []int{5, 0, 0})
	}
	for _, kind := range wrongKinds {
		for at := range 3 {
			kinds := []int{-1, 4, 0}
			kinds[at] = kind
			checkRoll(t, rows, 4, 2, kinds)
			if _, err := Roll(rows, 4, 2, kinds); err != api.ErrForm {
				t.Error(kinds, err)
			}
		}
	}
	if _, err := Roll(rows[:11], 4, 1, []int{0, 0}); err != api.ErrForm {
		t.Error(err)
	}
}

func TestShortUnrolls(t *testing.T) {
	of := []byte{0, 2, 4, 5, 255}
	for size := range 6 {
		each(size, of, func(b []byte) {
			for size := 1; size <= 3; size++ {
				for count := 1; count <= 4; count++ {
					checkUnroll(t, b, size, count, 1)
				}
			}
		})
	}
}

func TestManyUnrolls(t *testing.T) {
	seed := uint64(10)
	for range 20000 {
		size, count := 1+pick(&seed, 12), 1+pick(&seed, 6)
		b := someBytes(&seed, max((size+1)*count+pick(&seed, 9)/4*(pick(&seed, 5)-2), 0))
		for i := 0; i < len(b); i += size + 1 {
			b[i] = byte(pick(&seed, 5) + pick(&seed, 20)/19)
		}
		checkUnroll(t, b, size, count, 1+pick(&seed, 8))
	}
}

func TestUnrollOrderOfErrors(t *testing.T) {
	for _, x := range []struct {
		b           []byte
		size, count int
		want        error
	}{
		{nil, 1, 1, api.ErrEnd},
		{[]byte{0}, 1, 1, api.ErrEnd},
		{[]byte{0, 7}, 1, 1, nil},
		// A row that isn't complete goes before its kind, and rows ahead go before rows behind.
		{[]byte{9}, 1, 1, api.ErrEnd},
		{[]byte{9, 1}, 1, 1, api.ErrMalformed},
		{[]byte{9, 1}, 1, 2, api.ErrMalformed},
		{[]byte{0, 1, 9}, 1, 2, api.ErrEnd},
		{[]byte{0, 1, 9, 1}, 1, 3, api.ErrMalformed},
		{[]byte{0, 1, 0}, 1, 1, api.ErrMalformed},
		{[]byte{4, 1, 5, 1}, 1, 2, api.ErrMalformed},
		{[]byte{255, 1}, 1, 1, api.ErrMalformed},
		// Sizes go before all of it.
		{[]byte{9, 1, 1}, 1<<20 + 1, 1, api.ErrForm},
		{[]byte{9, 1, 1}, 1, 1<<20 + 1, api.ErrForm},
		{[]byte{9, 1, 1}, 1 << 20, 1 << 20, api.ErrEnd},
		{[]byte{9, 1, 1}, 1, 1 << 20, api.ErrMalformed},
		{nil, 1 << 20, 1 << 20, api.ErrEnd},
	} {
		if _, err := Unroll(x.b, x.size, x.count, 1); err != x.want {
			t.Error(x, err)
		}
		checkUnroll(t, x.b, x.size, x.count, 1)
	}
}

func TestWrongUnrolls(t *testing.T) {
	b := []byte{0, 1, 2, 3, 0, 4, 5, 6}
	for _, n := range append([]int{1<<20 + 1, 1<<20 - 1, 1 << 20}, wrongSizes...) {
		checkUnroll(t, b, n, 2, 1)
		checkUnroll(t, b, 3, n, 1)
		checkUnroll(t, b, 3, 2, n)
		checkUnroll(t, nil, n, 2, 1)
		checkUnroll(t, nil, 3, n, 1)
		checkUnroll(t, nil, 3, 2, n)
		checkUnroll(t, nil, n, n, n)
	}
}

func TestUnrollLimits(t *testing.T) {
	wide := make([]byte, 1+1<<20)
	wide[0], wide[1] = 1, 3
	out, err := Unroll(wide, 1<<20, 1, 4)
	if err != nil || len(out) != 1<<20 || out[0] != 3 || out[4] != 3 || out[1<<20-4] != 3 || out[1<<20-3] != 0 {
		t.Error(len(out), err)
	}
	tall := bytes.Repeat([]byte{2, 1}, 1<<20)
	out, err = Unroll(tall, 1, 1<<20, 8)
	if err != nil || len(out) != 1<<20 || out[0] != 1 || out[1<<20-1] != 0 || out[1<<20-2] != 255 {
		t.Error(len(out), err)
	}
}

// idat is what the chunks with the name IDAT hold, unpacked.
func idat(t *testing.T, file []byte) []byte {
	t.Helper()
	var packed []byte
	for at := 8; at < len(file); {
		size := int(binary.BigEndian.Uint32(file[at:]))
		if string(file[at+4:at+8]) == "IDAT" {
			packed = append(packed, file[at+8:at+8+size]...)
		}
		at += 12 + size
	}
	r, err := zlib.NewReader(bytes.NewReader(packed))
	if err != nil {
		t.Fatal(err)
	}
	b, err := io.ReadAll(r)
	if err != nil {
		t.Fatal(err)
	}
	return b
}

func TestLibrarysPicture(t *testing.T) {
	p := image.NewNRGBA(image.Rect(0, 0, 53, 40))
	seed := uint64(11)
	for y := range 40 {
		for x := range 53 {
			p.SetNRGBA(x, y, color.NRGBA{R: byte(4 * x), G: byte(3*y + x), B: byte(x * y / 8), A: byte(200 + pick(&seed, 2+y))})
		}
	}
	var file bytes.Buffer
	if err := png.Encode(&file, p); err != nil {
		t.Fatal(err)
	}
	filtered := idat(t, file.Bytes())
	rows, err := Unroll(filtered, 4*53, 40, 4)
	if err != nil || !bytes.Equal(rows, p.Pix) {
		t.Error(len(rows), err)
	}
	var kinds []int
	for i := range 40 {
		kinds = append(kinds, int(filtered[i*(4*53+1)]))
	}
	if again, err := Roll(p.Pix, 4*53, 4, kinds); err != nil || !bytes.Equal(again, filtered) {
		t.Error(len(again), err)
	}
}

// P14.3

// spoil writes over bytes, and over the room behind them.
func spoil(b []byte) {
	b = b[:cap(b)]
	for i := range b {
		b[i] ^= 0x5a
	}
}

// roomy is a list with others in the room behind it.
func roomy[T any](list []T, more ...T) []T {
	return append(slices.Clone(list), more...)[:len(list)]
}

// checkApart holds two answers of one call, for arguments that have room behind them, against what they should be: whatever is done to one answer changes neither the arguments nor the other one.
func checkApart(t *testing.T, want []byte, wantErr error, call func() ([]byte, error), args ...[]byte) {
	t.Helper()
	var held [][]byte
	for _, b := range args {
		held = append(held, slices.Clone(b[:cap(b)]))
	}
	one, err := call()
	two, errTwo := call()
	if !bytes.Equal(one, want) || err != wantErr || errTwo != wantErr {
		t.Fatal(one, err, errTwo)
	}
	spoil(one)
	for i, b := range args {
		if !bytes.Equal(b[:cap(b)], held[i]) {
			t.Fatal("an argument is changed, or shares memory with the answer")
		}
	}
	for _, b := range args {
		spoil(b)
	}
	if !bytes.Equal(two, want) {
		t.Fatal("two answers share memory, or one with an argument")
	}
	for i, b := range args {
		copy(b[:cap(b)], held[i])
	}
}

func TestArgumentsStay(t *testing.T) {
	seed := uint64(12)
	for size := range 20 {
		for kind := -2; kind <= 5; kind++ {
			for _, there := range []int{0, size} {
				bpp := 1 + pick(&seed, 8)
				row, ahead := roomy(someBytes(&seed, size), 1, 2, 3, 4, 5), roomy(someBytes(&seed, there), 6, 7, 8, 9)
				want, wantErr := plainFilter(kind, row, ahead, bpp)
				checkApart(t, want, wantErr, func() ([]byte, error) { return Filter(kind, row, ahead, bpp) }, row, ahead)
				want, wantErr = plainUnfilter(kind, row, ahead, bpp)
				checkApart(t, want, wantErr, func() ([]byte, error) { return Unfilter(kind, row, ahead, bpp) }, row, ahead)
				checkApart(t, nil, nil, func() ([]byte, error) {
					Weight(row)
					_, err := Lightest(row, ahead, bpp)
					return nil, err
				}, row, ahead)
			}
		}
	}
}

func TestRowsStay(t *testing.T) {
	seed := uint64(13)
	for range 300 {
		size, count, bpp := 1+pick(&seed, 9), 1+pick(&seed, 6), 1+pick(&seed, 8)
		rows, kinds := roomy(someBytes(&seed, size*count), 1, 2, 3, 4, 5, 6, 7, 8, 9, 10), roomy(someKinds(&seed, count), 3, -1, 7)
		held := slices.Clone(kinds[:cap(kinds)])
		want, wantErr := plainRoll(rows, size, bpp, kinds)
		checkApart(t, want, wantErr, func() ([]byte, error) { return Roll(rows, size, bpp, kinds) }, rows)
		if !slices.Equal(kinds[:cap(kinds)], held) {
			t.Fatal("the kinds are changed")
		}
		b := roomy(want, 0, 0, 0, 4, 5, 6)
		for _, b := range [][]byte{b, b[:len(b)-1], b[:0]} {
			back, backErr := plainUnroll(b, size, count, bpp)
			checkApart(t, back, backErr, func() ([]byte, error) { return Unroll(b, size, count, bpp) }, b)
		}
	}
}
