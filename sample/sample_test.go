package sample

import (
	"bytes"
	"image"
	"image/color"
	"image/png"
	"math"
	"slices"
	"testing"

	"burnish/api"
	"burnish/chunk"
	"burnish/head"
	"burnish/squeeze"
)

// wrongDepths is numbers that no function takes as a depth.
var wrongDepths = []int{math.MinInt, -1 << 32, -64, -16, -8, -4, -2, -1, 0, 3, 5, 6, 7, 9, 10, 12, 15, 17, 24, 31, 32, 33, 63, 64, 65, 128, 256, 257, 1 << 32, 1<<32 + 1, 1<<32 + 8, math.MaxInt}

// wild is numbers that are far from any of 16 bits.
var wild = []int{math.MinInt, math.MinInt + 1, -1 << 62, -1<<32 + 1, -1 << 32, -1<<32 - 1, -1 << 31, -1 << 16, 1 << 17, 1<<17 - 1, 1 << 31, 1<<32 - 1, 1 << 32, 1<<32 + 1, 1<<32 + 65535, 1 << 62, math.MaxInt - 1, math.MaxInt}

// beyond is numbers that a depth doesn't have.
func beyond(depth int) []int {
	out := append([]int{-1, -2, -1 << depth, 1 << depth, 1<<depth + 1, 1 << (depth + 1)}, wild...)
	return slices.DeleteFunc(out, func(n int) bool { return n >= 0 && n < 1<<depth })
}

// checkPack holds Pack, and Unpack of what it answers, against what they should be.
func checkPack(t *testing.T, list []int, depth int) {
	t.Helper()
	want, wantErr := plainPack(list, depth)
	row, err := Pack(list, depth)
	if !bytes.Equal(row, want) || err != wantErr || err != nil && row != nil {
		t.Fatalf("%v, %d: %x, %v; want %x, %v", list, depth, row, err, want, wantErr)
	}
	if err != nil {
		return
	}
	if back, err := Unpack(row, depth, len(list)); !slices.Equal(back, list) || err != nil {
		t.Fatalf("%v, %d: %x: back %v, %v", list, depth, row, back, err)
	}
}

func checkUnpack(t *testing.T, row []byte, depth, count int) {
	t.Helper()
	want, wantErr := plainUnpack(row, depth, count)
	list, err := Unpack(row, depth, count)
	if !slices.Equal(list, want) || err != wantErr || err != nil && list != nil {
		t.Fatalf("%x, %d, %d: %v, %v; want %v, %v", row, depth, count, list, err, want, wantErr)
	}
}

// each calls do with all lists of that many numbers, each of which is one of those given.
func each(count int, of []int, do func(list []int)) {
	list := make([]int, count)
	var from func(at int)
	from = func(at int) {
		if at == count {
			do(list)
			return
		}
		for _, list[at] = range of {
			from(at + 1)
		}
	}
	from(0)
}

// upTo is the numbers below end.
func upTo(end int) []int {
	out := make([]int, end)
	for i := range out {
		out[i] = i
	}
	return out
}

// P16.1, P16.2: Pack

func TestPackKnown(t *testing.T) {
	for _, x := range []struct {
		list  []int
		depth int
		want  []byte
	}{
		{[]int{1, 2, 3}, 2, []byte{0x6c}},
		{[]int{1}, 1, []byte{0x80}},
		{[]int{0, 0, 0, 0, 0, 0, 0, 1}, 1, []byte{0x01}},
		{[]int{0, 0, 0, 0, 0, 0, 0, 1, 1}, 1, []byte{0x01, 0x80}},
		{[]int{3}, 2, []byte{0xc0}},
		{[]int{0, 1, 2, 3, 3}, 2, []byte{0x1b, 0xc0}},
		{[]int{10}, 4, []byte{0xa0}},
		{[]int{10, 11, 12}, 4, []byte{0xab, 0xc0}},
		{[]int{0, 128, 255}, 8, []byte{0, 128, 255}},
		{[]int{0x1234, 1, 0xff00}, 16, []byte{0x12, 0x34, 0, 1, 0xff, 0}},
	} {
		if row, err := Pack(x.list, x.depth); !bytes.Equal(row, x.want) || err != nil {
			t.Error(x, row, err)
		}
		checkPack(t, x.list, x.depth)
	}
	for _, depth := range depths {
		for _, none := range [][]int{nil, {}} {
			if row, err := Pack(none, depth); len(row) > 0 || err != nil {
				t.Error(depth, row, err)
			}
		}
	}
}

func TestPackAllShort(t *testing.T) {
	for _, x := range []struct {
		depth, most int
		of          []int
	}{
		{1, 12, upTo(2)}, {2, 6, upTo(4)}, {4, 3, upTo(16)}, {8, 2, upTo(256)}, {16, 1, upTo(65536)},
		{8, 5, []int{0, 1, 127, 128, 254, 255}},
		{16, 5, []int{0, 1, 255, 256, 32768, 65535}},
	} {
		for count := range x.most + 1 {
			each(count, x.of, func(list []int) { checkPack(t, list, x.depth) })
		}
	}
}

func TestPackEachCount(t *testing.T) {
	seed := uint64(1)
	for _, depth := range depths {
		for count := range 140 {
			checkPack(t, someNumbers(&seed, count, depth), depth)
			checkPack(t, slices.Repeat([]int{1<<depth - 1}, count), depth)
			checkPack(t, make([]int, count), depth)
		}
		checkPack(t, someNumbers(&seed, 4099, depth), depth)
	}
}

// Whatever a number is beyond its depth, no row comes of it, wherever it is.
func TestPackRange(t *testing.T) {
	for _, depth := range depths {
		for _, n := range beyond(depth) {
			for count := 1; count <= 17; count++ {
				list := slices.Repeat([]int{1}, count)
				for _, at := range []int{0, count / 2, count - 1} {
					old := list[at]
					list[at] = n
					if row, err := Pack(list, depth); row != nil || err != api.ErrRange {
						t.Fatal(list, depth, row, err)
					}
					list[at] = old
				}
				checkPack(t, list, depth)
			}
		}
	}
	for _, depth := range depths {
		for n := -300; n <= 300; n++ {
			checkPack(t, []int{n}, depth)
			checkPack(t, []int{65535 + n}, depth)
		}
	}
}

// A depth that isn't one goes before all that is wrong with numbers.
func TestPackForm(t *testing.T) {
	for _, depth := range wrongDepths {
		for _, list := range [][]int{nil, {0}, {1, 0, 1}, {-1}, {math.MaxInt}, {math.MinInt, 0}} {
			if row, err := Pack(list, depth); row != nil || err != api.ErrForm {
				t.Error(list, depth, row, err)
			}
		}
	}
	for depth := -70; depth <= 70; depth++ {
		checkPack(t, []int{0, 1, 1}, depth)
		checkPack(t, []int{0, 1, 70000}, depth)
	}
}

func TestPackLimit(t *testing.T) {
	seed := uint64(2)
	for _, depth := range depths {
		list := someNumbers(&seed, 1<<20, depth)
		checkPack(t, list, depth)
		checkPack(t, list[:1<<20-1], depth)
		for _, last := range []int{0, 1<<depth - 1, 1 << depth, -1} {
			for _, more := range [][]int{{last}, {last, last}, make([]int, 8), make([]int, 1<<20)} {
				if row, err := Pack(slices.Concat(list, more), depth); row != nil || err != api.ErrForm {
					t.Fatal(depth, len(more), len(row), err)
				}
			}
		}
		list[1<<20-1] = 1 << depth
		if row, err := Pack(list, depth); row != nil || err != api.ErrRange {
			t.Fatal(depth, len(row), err)
		}
		// Too many go before one that is out of range.
		if row, err := Pack(append(list, 0), depth); row != nil || err != api.ErrForm {
			t.Fatal(depth, len(row), err)
		}
	}
}

// P16.1, P16.2: Unpack

func TestUnpackKnown(t *testing.T) {
	for _, x := range []struct {
		row          []byte
		depth, count int
		want         []int
	}{
		{[]byte{0x6c}, 2, 3, []int{1, 2, 3}},
		// What remains of the last byte makes no difference.
		{[]byte{0x6f}, 2, 3, []int{1, 2, 3}},
		{[]byte{0x6f}, 2, 4, []int{1, 2, 3, 3}},
		{[]byte{0xff}, 1, 1, []int{1}},
		{[]byte{0x7f}, 1, 1, []int{0}},
		{[]byte{0x00, 0xff}, 1, 9, []int{0, 0, 0, 0, 0, 0, 0, 0, 1}},
		{[]byte{0xab, 0xcd}, 4, 3, []int{10, 11, 12}},
		{[]byte{0, 128, 255}, 8, 3, []int{0, 128, 255}},
		{[]byte{0x12, 0x34, 0xff, 0}, 16, 2, []int{0x1234, 0xff00}},
		{nil, 1, 0, nil}, {nil, 16, 0, nil}, {[]byte{}, 8, 0, nil},
	} {
		if list, err := Unpack(x.row, x.depth, x.count); !slices.Equal(list, x.want) || err != nil {
			t.Error(x, list, err)
		}
		checkUnpack(t, x.row, x.depth, x.count)
	}
}

func TestUnpackAllShort(t *testing.T) {
	for _, depth := range depths {
		for n := range 65536 {
			two := []byte{byte(n >> 8), byte(n)}
			checkUnpack(t, two, depth, 16/depth)
			checkUnpack(t, two, depth, 8/depth+1)
			if n < 256 {
				for count := range 18 {
					checkUnpack(t, two[1:], depth, count)
				}
			}
		}
	}
}

// A row of one byte too few, or too many, is none.
func TestUnpackEachSize(t *testing.T) {
	seed := uint64(3)
	for _, depth := range depths {
		for count := range 72 {
			for size := range 150 {
				checkUnpack(t, someBytes(&seed, size), depth, count)
			}
		}
	}
}

func TestUnpackForm(t *testing.T) {
	seed := uint64(4)
	for _, row := range [][]byte{nil, {0}, {255}, {1, 2}, someBytes(&seed, 64)} {
		for _, depth := range wrongDepths {
			for _, count := range []int{math.MinInt, -1, 0, 1, 2, 8, 64, 1 << 20, math.MaxInt} {
				if list, err := Unpack(row, depth, count); list != nil || err != api.ErrForm {
					t.Error(row, depth, count, list, err)
				}
			}
		}
		for _, depth := range depths {
			// The bits of some of these counts are a small number, or 0, in 64 bits.
			for _, count := range append([]int{-1, -2, -4, -7, -8, -9, -16, 1<<20 + 1, 1 << 21, 1 << 60, 1<<60 + 1, 1 << 61, 1<<61 + 1, 1<<62 + 2, 1<<62 + 4}, wild...) {
				if list, err := Unpack(row, depth, count); list != nil || err != api.ErrForm {
					t.Error(row, depth, count, list, err)
				}
			}
		}
	}
	for depth := -70; depth <= 70; depth++ {
		checkUnpack(t, []byte{0x5a}, depth, 1)
		checkUnpack(t, nil, depth, 0)
	}
}

func TestUnpackLimit(t *testing.T) {
	seed := uint64(5)
	for _, depth := range depths {
		row := someBytes(&seed, depth<<17)
		list, err := Unpack(row, depth, 1<<20)
		if err != nil || len(list) != 1<<20 {
			t.Fatal(depth, len(list), err)
		}
		for _, at := range []int{0, 1, 7, 1 << 19, 1<<20 - 2, 1<<20 - 1} {
			bits := ""
			for i := at * depth / 8; i*8 < (at+1)*depth; i++ {
				bits += text(int(row[i]), 8)
			}
			from := at * depth % 8
			if list[at] != number(bits[from:from+depth]) {
				t.Fatal(depth, at, list[at])
			}
		}
		if back, err := Pack(list, depth); !bytes.Equal(back, row) || err != nil {
			t.Fatal(depth, err)
		}
		for more := 1; more <= 8; more++ {
			row = append(row, 0)
			for _, count := range []int{1<<20 + 1, 1<<20 + 8*more/depth, 1 << 20} {
				if list, err := Unpack(row, depth, count); list != nil || err != api.ErrForm {
					t.Fatal(depth, more, count, len(list), err)
				}
			}
		}
	}
}

// P16.1, P16.2: Widen, Narrow

func TestWidenKnown(t *testing.T) {
	for _, x := range [][3]int{
		{0, 1, 0}, {1, 1, 65535}, {0, 2, 0}, {1, 2, 21845}, {2, 2, 43690}, {3, 2, 65535},
		{1, 4, 0x1111}, {7, 4, 0x7777}, {15, 4, 65535}, {1, 8, 257}, {0xa5, 8, 0xa5a5}, {255, 8, 65535},
		{0, 16, 0}, {1, 16, 1}, {258, 16, 258}, {65535, 16, 65535},
	} {
		if wide, err := Widen(x[0], x[1]); wide != x[2] || err != nil {
			t.Error(x, wide, err)
		}
		if n, ok := Narrow(x[2], x[1]); n != x[0] || !ok {
			t.Error(x, n, ok)
		}
	}
}

func TestWidenAll(t *testing.T) {
	for _, depth := range depths {
		for n := -70; n <= 65535+70; n++ {
			want, wantErr := plainWiden(n, depth)
			wide, err := Widen(n, depth)
			if wide != want || err != wantErr {
				t.Fatal(n, depth, wide, err)
			}
			if back, ok := Narrow(wide, depth); err == nil && (back != n || !ok) {
				t.Fatal(n, depth, wide, back, ok)
			}
		}
		for _, n := range beyond(depth) {
			if wide, err := Widen(n, depth); wide != 0 || err != api.ErrRange {
				t.Error(n, depth, wide, err)
			}
		}
	}
	for _, depth := range wrongDepths {
		for _, n := range append([]int{-1, 0, 1, 2, 7, 65535, 65536}, wild...) {
			if wide, err := Widen(n, depth); wide != 0 || err != api.ErrForm {
				t.Error(n, depth, wide, err)
			}
		}
	}
}

func TestNarrowAll(t *testing.T) {
	for depth := -2; depth <= 34; depth++ {
		numbers := widened(depth)
		for wide := -66000; wide <= 132000; wide++ {
			want, wantOk := numbers[wide]
			n, ok := Narrow(wide, depth)
			if n != want || ok != wantOk {
				t.Fatal(wide, depth, n, ok)
			}
			if again, err := Widen(n, depth); ok && (again != wide || err != nil) {
				t.Fatal(wide, depth, n, again, err)
			}
		}
	}
}

func TestNarrowWrong(t *testing.T) {
	for _, depth := range slices.Concat(depths, wrongDepths) {
		// Multiples of what numbers are multiplied by, too, but of no number that a depth has.
		for _, wide := range append([]int{-1, -257, -4369, -21845, -65535, 65535 * 2, 65535 + 257, 65535 + 4369, 65535 + 21845, 65536, 65535 << 32, -65535 << 32}, wild...) {
			if n, ok := Narrow(wide, depth); n != 0 || ok {
				t.Error(wide, depth, n, ok)
			}
		}
	}
	for _, depth := range wrongDepths {
		for _, wide := range []int{0, 1, 257, 21845, 65535} {
			if n, ok := Narrow(wide, depth); n != 0 || ok {
				t.Error(wide, depth, n, ok)
			}
		}
	}
}

// P16.1: Depth

func TestDepthKnown(t *testing.T) {
	for _, x := range []struct {
		list []int
		want int
	}{
		{nil, 1}, {[]int{}, 1}, {[]int{0}, 1}, {[]int{65535}, 1}, {[]int{65535, 0, 0, 65535}, 1},
		{[]int{21845}, 2}, {[]int{43690, 0}, 2}, {[]int{0, 65535, 21845}, 2},
		{[]int{4369}, 4}, {[]int{21845, 4369}, 4}, {[]int{0x7777, 0xaaaa, 0}, 4},
		{[]int{257}, 8}, {[]int{0x1212, 0x1111, 0xffff}, 8}, {[]int{0, 0xfefe}, 8},
		{[]int{1}, 16}, {[]int{0, 65535, 65534}, 16}, {[]int{258, 257}, 16},
		// Numbers of more than 16 bits can't be narrowed at all.
		{[]int{-1}, 16}, {[]int{65536}, 16}, {[]int{131070, 0}, 16}, {[]int{0, -65535}, 16}, {[]int{math.MinInt}, 16}, {[]int{math.MaxInt}, 16},
	} {
		if depth := Depth(x.list); depth != x.want {
			t.Error(x, depth)
		}
	}
}

func TestDepthOfAll(t *testing.T) {
	for n, want := range plainDepths() {
		for _, list := range [][]int{{n}, {n, n}, {0, n}, {n, 65535}} {
			if depth := Depth(list); depth != want {
				t.Fatal(list, depth, want)
			}
		}
	}
	for _, n := range wild {
		if depth := Depth([]int{0, n}); depth != 16 {
			t.Error(n, depth)
		}
	}
}

// The greatest of the numbers' own depths.
func TestDepthOfMany(t *testing.T) {
	own := plainDepths()
	each(4, []int{0, 65535, 21845, 43690, 4369, 0x2222, 257, 0x0f0f, 1, 65534}, func(list []int) {
		want := 1
		for _, n := range list {
			want = max(want, own[n])
		}
		if depth := Depth(list); depth != want {
			t.Fatal(list, depth, want)
		}
	})
	for _, size := range []int{1, 2, 1000, 1 << 20, 1<<20 + 1, 1 << 21} {
		for _, n := range []int{0, 65535, 21845, 4369, 257, 1} {
			for _, at := range []int{0, size / 2, size - 1} {
				list := make([]int, size)
				list[at] = n
				if depth := Depth(list); depth != own[n] {
					t.Fatal(size, n, at, depth)
				}
			}
		}
	}
}

// To the depth of a list, and to each one above it, all numbers can be narrowed.
func TestDepthHolds(t *testing.T) {
	seed := uint64(6)
	for _, own := range depths {
		for range 300 {
			var list []int
			for _, n := range someNumbers(&seed, pick(&seed, 9), own) {
				wide, err := Widen(n, own)
				if err != nil {
					t.Fatal(n, own, err)
				}
				list = append(list, wide)
			}
			least := Depth(list)
			if least > own {
				t.Fatal(list, least, own)
			}
			for _, depth := range depths {
				all := true
				for _, wide := range list {
					_, ok := Narrow(wide, depth)
					all = all && ok
				}
				if all != (depth >= least) {
					t.Fatal(list, least, depth)
				}
			}
		}
	}
}

// P16.2

func TestRoundTrip(t *testing.T) {
	seed := uint64(7)
	for _, depth := range depths {
		for range 500 {
			list := someNumbers(&seed, pick(&seed, 60), depth)
			row, err := Pack(list, depth)
			if err != nil {
				t.Fatal(list, depth, err)
			}
			if back, err := Unpack(row, depth, len(list)); !slices.Equal(back, list) || err != nil {
				t.Fatal(list, depth, row, back, err)
			}
			// What remains of the last byte is lost, and nothing else.
			other := slices.Clone(row)
			if free := len(row)*8 - len(list)*depth; free > 0 {
				other[len(row)-1] |= byte(pick(&seed, 1<<free))
			}
			back, err := Unpack(other, depth, len(list))
			if !slices.Equal(back, list) || err != nil {
				t.Fatal(list, depth, other, back, err)
			}
			if again, err := Pack(back, depth); !bytes.Equal(again, row) || err != nil {
				t.Fatal(list, depth, other, again, err)
			}
		}
	}
}

// fileOf is a PNG of grey pixels whose rows Pack makes.
func fileOf(t *testing.T, width, height, depth int, grey []int) []byte {
	t.Helper()
	var rows []byte
	for line := range slices.Chunk(grey, width) {
		row, err := Pack(line, depth)
		if err != nil {
			t.Fatal(err)
		}
		rows = append(append(rows, 0), row...)
	}
	first, err := head.Put(api.Head{Width: width, Height: height, Depth: depth})
	if err != nil {
		t.Fatal(err)
	}
	packed, err := squeeze.Wrapped(rows, 0)
	if err != nil {
		t.Fatal(err)
	}
	file, err := chunk.Write([]api.Chunk{{Name: "IHDR", Data: first}, {Name: "IDAT", Data: packed}, {Name: "IEND"}})
	if err != nil {
		t.Fatal(err)
	}
	return file
}

// The library reads what is packed, and widens it as Widen does.
func TestLibraryReads(t *testing.T) {
	seed := uint64(8)
	for _, depth := range depths {
		for width := 1; width <= 33; width++ {
			height := 1 + pick(&seed, 6)
			grey := someNumbers(&seed, width*height, depth)
			img, err := png.Decode(bytes.NewReader(fileOf(t, width, height, depth, grey)))
			if err != nil || img.Bounds() != image.Rect(0, 0, width, height) {
				t.Fatal(width, height, depth, err)
			}
			for i, n := range grey {
				wide, err := Widen(n, depth)
				got := color.Gray16Model.Convert(img.At(i%width, i/width)).(color.Gray16)
				if err != nil || int(got.Y) != wide {
					t.Fatal(width, height, depth, i, got, wide, err)
				}
			}
		}
	}
}

// P16.3

func TestArgumentsStay(t *testing.T) {
	seed := uint64(9)
	for _, depth := range depths {
		for count := range 40 {
			// Behind the list, and behind the row, is room that isn't theirs.
			room := someNumbers(&seed, count+20, depth)
			list := room[:count]
			old := slices.Clone(room)
			row, err := Pack(list, depth)
			if err != nil {
				t.Fatal(err)
			}
			Depth(list)
			if !slices.Equal(room, old) {
				t.Fatal(depth, count, room, old)
			}
			wide := append(slices.Clone(row), 0xa5, 0x5a, 0xff, 0)
			oldRow := slices.Clone(wide)
			if _, err := Unpack(wide[:len(row)], depth, count); err != nil {
				t.Fatal(err)
			}
			if !bytes.Equal(wide, oldRow) {
				t.Fatal(depth, count, wide, oldRow)
			}
			list = append(list, 1<<depth)
			Pack(list, depth)
			if list[count] != 1<<depth || !slices.Equal(list[:count], old[:count]) {
				t.Fatal(depth, count, list)
			}
		}
	}
}

func TestResultsAreNew(t *testing.T) {
	seed := uint64(10)
	for _, depth := range depths {
		for count := 1; count < 40; count++ {
			list := someNumbers(&seed, count, depth)
			old := slices.Clone(list)
			one, _ := Pack(list, depth)
			two, _ := Pack(list, depth)
			kept := slices.Clone(two)
			one = one[:cap(one)]
			for i := range one {
				one[i] ^= 0xff
			}
			for i := range list {
				list[i] = -1
			}
			if !bytes.Equal(two, kept) {
				t.Fatal(depth, count, two, kept)
			}
			three, _ := Unpack(two, depth, count)
			four, _ := Unpack(two, depth, count)
			three = three[:cap(three)]
			for i := range three {
				three[i] = -1
			}
			if !bytes.Equal(two, kept) {
				t.Fatal(depth, count, two, kept)
			}
			for i := range two {
				two[i] ^= 0xff
			}
			if !slices.Equal(four, old) {
				t.Fatal(depth, count, four, old)
			}
		}
	}
}
