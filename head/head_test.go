package head

import (
	"bytes"
	"encoding/hex"
	"image"
	"image/color"
	"image/png"
	"math"
	"slices"
	"testing"

	"burnish/api"
	"burnish/chunk"
)

// edges is numbers at the bounds of what a head may hold, and far from them.
var edges = []int{math.MinInt, -1 << 32, -256, -2, -1, 0, 1, 2, 3, 4, 8, 15, 16, 17, 255, 256, 257, 511, 512, 513, 65534, 65535, 65536, 65537, 1 << 18, 1<<18 + 1, 1<<31 - 1, 1 << 31, 1<<32 - 1, 1 << 32, 1<<32 + 1, 1 << 62, math.MaxInt}

// checkHead holds Check and Put against what they should be.
func checkHead(t *testing.T, h api.Head) {
	t.Helper()
	want := plainCheck(h)
	if err := Check(h); err != want {
		t.Fatalf("%+v: %v, want %v", h, err, want)
	}
	b, err := Put(h)
	if err != want || err != nil && len(b) > 0 || err == nil && !bytes.Equal(b, plainPut(h)) {
		t.Fatalf("%+v: %x, %v; want %v", h, b, err, want)
	}
}

// checkTake holds Take against what it should be.
func checkTake(t *testing.T, data []byte) {
	t.Helper()
	want, wantErr := plainTake(data)
	if h, err := Take(data); h != want || err != wantErr {
		t.Fatalf("%x: %+v, %v; want %+v, %v", data, h, err, want, wantErr)
	}
}

// P13.1: Check, Put

func TestSorts(t *testing.T) {
	good := 0
	for color := -3; color <= 20; color++ {
		for depth := -3; depth <= 40; depth++ {
			for lace := -2; lace <= 4; lace++ {
				h := api.Head{Width: 5, Height: 7, Depth: depth, Color: color, Lace: lace}
				checkHead(t, h)
				if Check(h) == nil {
					good++
				}
			}
		}
	}
	if good != 30 {
		t.Error(good)
	}
	for _, n := range edges {
		for _, h := range heads() {
			for _, k := range []api.Head{h, {Width: 1, Height: 1, Depth: n, Color: h.Color}, {Width: 1, Height: 1, Depth: h.Depth, Color: n}, {Width: 1, Height: 1, Depth: h.Depth, Color: h.Color, Lace: n}} {
				checkHead(t, k)
			}
		}
	}
}

func TestSides(t *testing.T) {
	for _, h := range heads() {
		for _, h.Width = range edges {
			for _, h.Height = range edges {
				checkHead(t, h)
			}
		}
	}
	for width := 1; width <= 65536; width++ {
		most := 1 << 18 / width
		for _, height := range []int{most, most + 1} {
			h := api.Head{Width: width, Height: min(height, 65535), Depth: 8}
			checkHead(t, h)
			h.Width, h.Height = h.Height, h.Width
			checkHead(t, h)
		}
	}
}

func TestCheckKnown(t *testing.T) {
	for i, x := range []struct {
		h    api.Head
		want error
	}{
		{api.Head{Width: 65535, Height: 4, Depth: 8}, nil},
		{api.Head{Width: 4, Height: 65535, Depth: 8}, nil},
		{api.Head{Width: 65535, Height: 5, Depth: 8}, api.ErrTooLarge},
		{api.Head{Width: 65536, Height: 1, Depth: 8}, api.ErrTooLarge},
		{api.Head{Width: 1, Height: 65536, Depth: 8}, api.ErrTooLarge},
		{api.Head{Width: 512, Height: 512, Depth: 8, Lace: 1}, nil},
		{api.Head{Width: 512, Height: 513, Depth: 8}, api.ErrTooLarge},
		// These products wrap around.
		{api.Head{Width: 1 << 32, Height: 1 << 32, Depth: 8}, api.ErrTooLarge},
		{api.Head{Width: math.MaxInt, Height: math.MaxInt, Depth: 8}, api.ErrTooLarge},
		// Being malformed goes before being too large.
		{api.Head{Width: math.MaxInt, Height: 0, Depth: 8}, api.ErrMalformed},
		{api.Head{Width: -1, Height: 1 << 40, Depth: 8}, api.ErrMalformed},
		{api.Head{Width: 1 << 40, Height: 1, Depth: 8, Color: 1}, api.ErrMalformed},
		{api.Head{Width: 600, Height: 600, Depth: 16, Color: 3}, api.ErrMalformed},
		{api.Head{Width: 600, Height: 600, Depth: 8, Lace: 2}, api.ErrMalformed},
		{api.Head{Width: 600, Height: 600, Depth: 8, Lace: -1}, api.ErrMalformed},
		{api.Head{}, api.ErrMalformed},
	} {
		if err := Check(x.h); err != x.want {
			t.Error(i, err)
		}
		checkHead(t, x.h)
	}
}

func TestPutKnown(t *testing.T) {
	for _, x := range []struct {
		h    api.Head
		want string
	}{
		{api.Head{Width: 1, Height: 1, Depth: 1}, "00000001000000010100000000"},
		{api.Head{Width: 258, Height: 3, Depth: 16, Color: 6, Lace: 1}, "00000102000000031006000001"},
		{api.Head{Width: 4, Height: 65535, Depth: 8, Color: 3}, "000000040000ffff0803000000"},
		{api.Head{Width: 65535, Height: 2, Depth: 8, Color: 4, Lace: 1}, "0000ffff000000020804000001"},
	} {
		b, err := Put(x.h)
		if hex.EncodeToString(b) != x.want || err != nil {
			t.Errorf("%x, %v; want %s", b, err, x.want)
		}
		if h, err := Take(b); h != x.h || err != nil {
			t.Error(h, err)
		}
	}
}

// P13.1: Take

func TestTakeSizes(t *testing.T) {
	for _, h := range heads() {
		b := append(plainPut(h), make([]byte, 300)...)
		for n := range len(b) {
			if n != 13 {
				if h, err := Take(b[:n]); h != (api.Head{}) || err != api.ErrMalformed {
					t.Fatal(n, h, err)
				}
			}
		}
		if k, err := Take(b[:13]); k != h || err != nil {
			t.Error(k, err)
		}
	}
	// The size goes before what the bytes are.
	for _, b := range [][]byte{nil, {}, bytes.Repeat([]byte{0xff}, 12), bytes.Repeat([]byte{0xff}, 14), make([]byte, 1<<20)} {
		if h, err := Take(b); h != (api.Head{}) || err != api.ErrMalformed {
			t.Error(len(b), h, err)
		}
	}
}

func TestTakeBytes(t *testing.T) {
	for _, h := range heads() {
		for _, side := range []int{1, 255, 256} {
			h.Width, h.Height = side, 257
			b := plainPut(h)
			for at := range b {
				for x := range 256 {
					c := slices.Clone(b)
					c[at] = byte(x)
					checkTake(t, c)
					// Two that are wrong: the bytes that must be 0 go before the sides.
					c[3], c[7] = 0, 0
					checkTake(t, c)
					c[0], c[4] = 0x80, 0x01
					checkTake(t, c)
				}
			}
		}
	}
}

func TestTakeKnown(t *testing.T) {
	for _, x := range []struct {
		in   string
		want error
	}{
		{"00000001000000010100000000", nil},
		{"00000001000000010100010000", api.ErrMalformed},
		{"00000001000000010100000100", api.ErrMalformed},
		{"00000001000000010100800000", api.ErrMalformed},
		{"00000001000000010100008000", api.ErrMalformed},
		{"00000001000000010100000002", api.ErrMalformed},
		{"00000000000000010100000000", api.ErrMalformed},
		{"00000001000000000100000000", api.ErrMalformed},
		{"00010000000000010100000000", api.ErrTooLarge},
		{"00000001000100000100000000", api.ErrTooLarge},
		{"80000000000000010100000000", api.ErrTooLarge},
		{"ffffffffffffffff0100000000", api.ErrTooLarge},
		{"ffffffffffffffff0100000100", api.ErrMalformed},
		{"ffffffffffffffff0300000000", api.ErrMalformed},
		{"ffffffff000000000100000000", api.ErrMalformed},
		{"00000200000002000806000001", nil},
		{"00000200000002010806000001", api.ErrTooLarge},
	} {
		b, err := hex.DecodeString(x.in)
		if err != nil {
			t.Fatal(err)
		}
		if h, err := Take(b); err != x.want || err != nil && h != (api.Head{}) {
			t.Error(x.in, h, err)
		}
		checkTake(t, b)
	}
}

func TestTakeAnything(t *testing.T) {
	seed := uint64(1)
	for range 200000 {
		b := []byte{0, 0, byte(pick(&seed, 3)), byte(pick(&seed, 256)), 0, 0, byte(pick(&seed, 3)), byte(pick(&seed, 256)), []byte{1, 2, 3, 4, 8, 16}[pick(&seed, 6)], byte(pick(&seed, 8)), 0, 0, byte(pick(&seed, 3))}
		for range pick(&seed, 3) {
			b[pick(&seed, 13)] = byte(pick(&seed, 256))
		}
		checkTake(t, b)
	}
}

// P13.1: Channels, RowSize

func TestChannels(t *testing.T) {
	want := map[int]int{0: 1, 2: 3, 3: 1, 4: 2, 6: 4}
	for color := -70000; color <= 70000; color++ {
		if n := Channels(color); n != want[color] {
			t.Error(color, n)
		}
	}
	for _, color := range []int{math.MinInt, 1 << 32, 1<<32 + 2, 1 << 62, math.MaxInt} {
		if n := Channels(color); n != 0 {
			t.Error(color, n)
		}
	}
}

func TestRowSize(t *testing.T) {
	bits := map[int]int{0: 1, 2: 3, 3: 1, 4: 2, 6: 4}
	for _, h := range heads() {
		for width := -3; width <= 65540; width++ {
			want := 0
			// As many bytes as have room for all bits, and no more.
			if n := width * bits[h.Color] * h.Depth; width >= 1 && width <= 65535 {
				for want = n / 8; want*8 < n; {
					want++
				}
			}
			if n := RowSize(h, width); n != want {
				t.Fatal(h, width, n, want)
			}
		}
	}
	for _, x := range []struct{ color, depth, width, want int }{
		{0, 2, 3, 1}, {0, 1, 8, 1}, {0, 1, 9, 2}, {0, 4, 3, 2}, {0, 16, 3, 6}, {2, 8, 5, 15}, {2, 16, 5, 30}, {3, 2, 5, 2}, {3, 8, 5, 5}, {4, 8, 5, 10}, {4, 16, 5, 20}, {6, 8, 5, 20}, {6, 16, 5, 40}, {6, 16, 65535, 524280},
	} {
		for _, lace := range []int{0, 1} {
			if n := RowSize(api.Head{Width: 3, Height: 1, Depth: x.depth, Color: x.color, Lace: lace}, x.width); n != x.want {
				t.Error(x, n)
			}
		}
	}
}

func TestRowSizeWrong(t *testing.T) {
	for _, width := range []int{math.MinInt, -1, 0, 65536, 1 << 32, 1 << 60, math.MaxInt} {
		for _, h := range heads() {
			if n := RowSize(h, width); n != 0 {
				t.Error(h, width, n)
			}
		}
	}
	for _, h := range []api.Head{
		{}, {Width: 1, Height: 1}, {Width: 1, Height: 1, Depth: 3}, {Width: 1, Height: 1, Depth: 16, Color: 3}, {Width: 1, Height: 1, Depth: 4, Color: 2}, {Width: 1, Height: 1, Depth: 8, Color: 1}, {Width: 1, Height: 1, Depth: 8, Color: 5},
		{Height: 1, Depth: 8}, {Width: 1, Depth: 8}, {Width: -1, Height: -1, Depth: 8}, {Width: 1, Height: 1, Depth: 8, Lace: 2}, {Width: 1, Height: 1, Depth: 8, Lace: -1}, {Width: 1, Height: 1, Depth: -8}, {Width: 1, Height: 1, Depth: 32},
		{Width: 65536, Height: 1, Depth: 8}, {Width: 513, Height: 512, Depth: 8}, {Width: 1, Height: 65536, Depth: 8},
	} {
		if n := RowSize(h, 3); n != 0 {
			t.Error(h, n)
		}
	}
}

// P13.2

func TestTakeWritten(t *testing.T) {
	for _, h := range heads() {
		for _, h.Lace = range []int{0, 1} {
			for _, h.Width = range edges {
				for _, h.Height = range edges {
					if Check(h) != nil {
						continue
					}
					b, err := Put(h)
					if err != nil {
						t.Fatal(err)
					}
					k, err := Take(b)
					if k != h || err != nil {
						t.Fatal(k, h, err)
					}
					again, err := Put(k)
					if !bytes.Equal(again, b) || err != nil {
						t.Fatalf("%x, %v; want %x", again, err, b)
					}
				}
			}
		}
	}
}

func TestPutRead(t *testing.T) {
	seed := uint64(2)
	for n := 0; n < 20000; {
		b := []byte{0, 0, byte(pick(&seed, 2)), byte(pick(&seed, 256)), 0, 0, byte(pick(&seed, 2)), byte(pick(&seed, 256)), 1 << pick(&seed, 5), byte(pick(&seed, 7)), 0, 0, byte(pick(&seed, 2))}
		h, err := Take(b)
		if err != nil {
			continue
		}
		n++
		if again, err := Put(h); !bytes.Equal(again, b) || err != nil {
			t.Fatalf("%x, %v; want %x", again, err, b)
		}
	}
}

// libraryPictures is pictures that the library writes with other sorts.
func libraryPictures() []image.Image {
	box := image.Rect(0, 0, 300, 7)
	nrgba := image.NewNRGBA(box)
	nrgba64 := image.NewNRGBA64(box)
	nrgba.Set(1, 1, color.NRGBA{1, 2, 3, 4})
	nrgba64.Set(1, 1, color.NRGBA64{1, 2, 3, 4})
	opaque, opaque64 := image.NewRGBA(box), image.NewRGBA64(box)
	for y := range 7 {
		for x := range 300 {
			opaque.Set(x, y, color.RGBA{1, 2, 3, 255})
			opaque64.Set(x, y, color.RGBA64{1, 2, 3, 65535})
		}
	}
	out := []image.Image{nrgba, nrgba64, opaque, opaque64, image.NewGray(box), image.NewGray16(box)}
	for _, n := range []int{2, 4, 16, 17, 256} {
		p := make(color.Palette, n)
		for i := range p {
			p[i] = color.NRGBA{byte(i), byte(i), byte(i), byte(255 - i%2)}
		}
		out = append(out, image.NewPaletted(box, p))
	}
	return out
}

func TestLibrary(t *testing.T) {
	var got []api.Head
	for _, p := range libraryPictures() {
		var out bytes.Buffer
		if err := png.Encode(&out, p); err != nil {
			t.Fatal(err)
		}
		list, err := chunk.Parse(out.Bytes())
		if err != nil {
			t.Fatal(err)
		}
		h, err := Order(list)
		if err != nil {
			t.Fatal(err)
		}
		b, err := Put(h)
		if !bytes.Equal(b, list[0].Data) || err != nil {
			t.Errorf("%x, %v; want %x", b, err, list[0].Data)
		}
		h.Width, h.Height = h.Width-300, h.Height-7
		got = append(got, h)
	}
	want := []api.Head{{Depth: 8, Color: 6}, {Depth: 16, Color: 6}, {Depth: 8, Color: 2}, {Depth: 16, Color: 2}, {Depth: 8}, {Depth: 16}, {Depth: 1, Color: 3}, {Depth: 2, Color: 3}, {Depth: 4, Color: 3}, {Depth: 8, Color: 3}, {Depth: 8, Color: 3}}
	if !slices.Equal(got, want) {
		t.Error(got)
	}
}

// P13.3

func TestDataStays(t *testing.T) {
	for _, h := range heads() {
		b := append(plainPut(h), 1, 2, 3, 4, 5)
		held := slices.Clone(b)
		one, err := Take(b[:13])
		if !bytes.Equal(b, held) || one != h || err != nil {
			t.Fatal(b, one, err)
		}
		for i := range b {
			b[i] = 0xff
		}
		if one != h {
			t.Error(one)
		}
		out, err := Put(h)
		if err != nil {
			t.Fatal(err)
		}
		again, err := Put(h)
		if err != nil {
			t.Fatal(err)
		}
		for i := range out[:cap(out)] {
			out[:cap(out)][i] = 0xff
		}
		third, err := Put(h)
		if !bytes.Equal(again, plainPut(h)) || !bytes.Equal(third, again) || err != nil {
			t.Errorf("%x, %x, %v", again, third, err)
		}
	}
}
