package raster

import (
	"bytes"
	libzlib "compress/zlib"
	"image"
	"image/color"
	"image/png"
	"math"
	"slices"
	"testing"

	"burnish/api"
	"burnish/chunk"
	"burnish/head"
	"burnish/squeeze"
	"burnish/zlib"
)

// checkPack holds Pack of a raster that a good form holds, and Unpack of what it answers (P17.2), against what they should be.
func checkPack(t *testing.T, f Form, r api.Raster, kind int) []byte {
	t.Helper()
	b, err := Pack(f, r, kind)
	if !bytes.Equal(b, plainPack(f, r, always(kind))) || err != nil {
		t.Fatal(f, r, kind, b, err)
	}
	if back, err := Unpack(f, b); !Same(back, r) || err != nil {
		t.Fatal(f, r, kind, back, err)
	}
	return b
}

func checkUnpack(t *testing.T, f Form, data []byte) {
	t.Helper()
	want, wantErr := plainUnpack(f, data)
	if r, err := Unpack(f, data); !Same(r, want) || err != wantErr {
		t.Fatal(f, data, r, err, want, wantErr)
	}
}

// P17.1, P17.2: Pack

func TestPackKnown(t *testing.T) {
	black, white := api.Pixel{A: 65535}, api.Pixel{R: 65535, G: 65535, B: 65535, A: 65535}
	grey := func(n int) api.Pixel { return api.Pixel{R: 257 * n, G: 257 * n, B: 257 * n, A: 65535} }
	for _, x := range []struct {
		head   api.Head
		pixels []api.Pixel
		kind   int
		want   []byte
	}{
		{api.Head{Width: 1, Height: 1, Depth: 1}, []api.Pixel{white}, 0, []byte{0, 0x80}},
		{api.Head{Width: 3, Height: 2, Depth: 1}, []api.Pixel{white, black, white, black, white, black}, 0, []byte{0, 0xa0, 0, 0x40}},
		{api.Head{Width: 3, Height: 2, Depth: 8}, []api.Pixel{grey(1), grey(3), grey(6), grey(2), grey(4), grey(7)}, 1, []byte{1, 1, 2, 3, 1, 2, 2, 3}},
		{api.Head{Width: 3, Height: 2, Depth: 8}, []api.Pixel{grey(1), grey(3), grey(6), grey(2), grey(4), grey(7)}, 2, []byte{2, 1, 3, 6, 2, 1, 1, 1}},
		// The lightest kind of the first row is 1, and then 2; 4 is as light both times.
		{api.Head{Width: 3, Height: 2, Depth: 8}, []api.Pixel{grey(1), grey(3), grey(6), grey(2), grey(4), grey(7)}, -1, []byte{1, 1, 2, 3, 2, 1, 1, 1}},
		// Three passes of one pixel, one pixel, and two: none has a row ahead of it, and none a pixel to the left but in the last one.
		{api.Head{Width: 2, Height: 2, Depth: 8, Lace: 1}, []api.Pixel{grey(9), grey(10), grey(11), grey(13)}, 2, []byte{2, 9, 2, 10, 2, 11, 13}},
		{api.Head{Width: 2, Height: 2, Depth: 8, Lace: 1}, []api.Pixel{grey(9), grey(10), grey(11), grey(13)}, 1, []byte{1, 9, 1, 10, 1, 11, 2}},
		{api.Head{Width: 1, Height: 1, Depth: 16, Color: 6}, []api.Pixel{{R: 0x102, G: 0x304, B: 0x506, A: 0x708}}, 4, []byte{4, 1, 2, 3, 4, 5, 6, 7, 8}},
		{api.Head{Width: 2, Height: 1, Depth: 8, Color: 4}, []api.Pixel{{R: 257, G: 257, B: 257, A: 514}, {R: 771, G: 771, B: 771}}, 1, []byte{1, 1, 2, 2, 254}},
	} {
		f := Form{Head: x.head}
		r := api.Raster{Width: x.head.Width, Height: x.head.Height, Pixels: x.pixels}
		if b := checkPack(t, f, r, x.kind); !bytes.Equal(b, x.want) {
			t.Error(x, b)
		}
	}
}

func TestPackOfSmall(t *testing.T) {
	seed := uint64(11)
	for _, h := range sorts() {
		for width := 1; width <= 11; width++ {
			for height := 1; height <= 11; height++ {
				for laced := range 2 {
					f := someForm(&seed, sized(h, width, height, laced))
					checkPack(t, f, someRaster(&seed, f), pick(&seed, 6)-1)
				}
			}
		}
		for kind := -1; kind <= 4; kind++ {
			for laced := range 2 {
				f := someForm(&seed, sized(h, 17, 19, laced))
				checkPack(t, f, someRaster(&seed, f), kind)
			}
		}
	}
}

// Each sort at some of the edges that sides have.
func TestPackOfLarge(t *testing.T) {
	seed := uint64(12)
	edges := [][2]int{{65535, 1}, {512, 512}, {1, 65535}, {65535, 4}, {4, 65535}}
	for i, h := range sorts() {
		for laced := range 2 {
			sides := edges[(i+laced)%len(edges)]
			f := someForm(&seed, sized(h, sides[0], sides[1], laced))
			r := someRaster(&seed, f)
			b, err := Pack(f, r, i%3)
			if !bytes.Equal(b, plainPack(f, r, always(i%3))) || err != nil {
				t.Fatal(f.Head, err)
			}
			if back, err := Unpack(f, b); !Same(back, r) || err != nil {
				t.Fatal(f.Head, err)
			}
		}
	}
}

// Pixels that are all distinct.
func TestPackOfDistinct(t *testing.T) {
	f := Form{Head: api.Head{Width: 512, Height: 512, Depth: 16, Color: 6}}
	r := api.Raster{Width: 512, Height: 512}
	for n := range 1 << 18 {
		r.Pixels = append(r.Pixels, api.Pixel{R: n & 65535, G: n >> 2, B: 65535 - n&65535, A: n >> 2})
	}
	b, err := Pack(f, r, 0)
	if err != nil {
		t.Fatal(err)
	}
	if back, err := Unpack(f, b); !Same(back, r) || err != nil {
		t.Fatal(err)
	}
}

func TestPackWrong(t *testing.T) {
	seed := uint64(13)
	check := func(f Form, r api.Raster, kind int) {
		t.Helper()
		if b, err := Pack(f, r, kind); b != nil || err != api.ErrForm {
			t.Fatal(f, r, kind, b, err)
		}
	}
	for _, h := range sorts() {
		for laced := range 2 {
			f := someForm(&seed, sized(h, 5, 3, laced))
			good := someRaster(&seed, f)
			for _, kind := range append([]int{-3, -2, 5, 6, 255, 256, 260}, wild...) {
				if kind != -1 {
					check(f, good, kind)
				}
			}
			for _, n := range append([]int{0, 1, 3, 5, 15}, wild...) {
				if n != 5 {
					check(f, api.Raster{Width: n, Height: 3, Pixels: good.Pixels}, 0)
				}
				if n != 3 {
					check(f, api.Raster{Width: 5, Height: n, Pixels: good.Pixels}, 0)
				}
			}
			check(f, api.Raster{Width: 3, Height: 5, Pixels: good.Pixels}, 0)
			check(f, api.Raster{Width: 5, Height: 3}, 0)
			check(f, api.Raster{}, 0)
			for count := range 40 {
				if count != 15 {
					check(f, api.Raster{Width: 5, Height: 3, Pixels: slices.Repeat(good.Pixels, 3)[:count]}, 0)
				}
			}
		}
	}
}

// A pixel that has no numbers is found wherever it stands.
func TestPackWithoutNumbers(t *testing.T) {
	seed := uint64(14)
	for _, h := range sorts() {
		for laced := range 2 {
			f := someForm(&seed, sized(h, 5, 4, laced))
			r := someRaster(&seed, f)
			for at := range r.Pixels {
				old := r.Pixels[at]
				for _, p := range []api.Pixel{{R: -1}, {R: 65536, G: 65536, B: 65536, A: 65535}, {R: 1, G: 1, B: 1, A: 1}, {R: 257, A: 65535}, changed(old, 3, -1), changed(old, 0, 1), changed(old, 1, 257)} {
					r.Pixels[at] = p
					if _, ok := plainNumbers(f, p); ok {
						checkPack(t, f, r, 0)
					} else if b, err := Pack(f, r, 0); b != nil || err != api.ErrForm {
						t.Fatal(f, at, p, b, err)
					}
				}
				r.Pixels[at] = old
			}
		}
	}
}

// P17.1, P17.2: Unpack

func TestUnpackKnown(t *testing.T) {
	f := Form{Head: api.Head{Width: 3, Height: 1, Depth: 1, Color: 3}, Palette: []api.Pixel{{R: 257, A: 514}}}
	one := api.Raster{Width: 3, Height: 1, Pixels: slices.Repeat(f.Palette, 3)}
	for _, x := range []struct {
		data []byte
		want api.Raster
		err  error
	}{
		{[]byte{0, 0}, one, nil},
		// What remains of the byte makes no difference, even where the palette has no such pixel.
		{[]byte{0, 0x1f}, one, nil}, {[]byte{4, 0x10}, one, nil},
		{[]byte{0, 0x20}, api.Raster{}, api.ErrMalformed}, {[]byte{0, 0x80}, api.Raster{}, api.ErrMalformed},
		{[]byte{5, 0}, api.Raster{}, api.ErrMalformed}, {[]byte{255, 0}, api.Raster{}, api.ErrMalformed},
		{nil, api.Raster{}, api.ErrMalformed}, {[]byte{0}, api.Raster{}, api.ErrMalformed}, {[]byte{0, 0, 0}, api.Raster{}, api.ErrMalformed}, {[]byte{0, 0, 0, 0}, api.Raster{}, api.ErrMalformed},
	} {
		if r, err := Unpack(f, x.data); !Same(r, x.want) || err != x.err {
			t.Error(x, r, err)
		}
		checkUnpack(t, f, x.data)
	}
}

// Rows of any kinds, and whatever one bit, one byte, a cut or more bytes make of them.
func TestUnpackChanged(t *testing.T) {
	seed := uint64(15)
	for _, h := range sorts() {
		for laced := range 2 {
			for range 6 {
				f := someForm(&seed, sized(h, 1+pick(&seed, 10), 1+pick(&seed, 10), laced))
				r := someRaster(&seed, f)
				data := plainPack(f, r, func() int { return pick(&seed, 6) - 1 })
				if got, err := Unpack(f, data); !Same(got, r) || err != nil {
					t.Fatal(f, r, got, err)
				}
				for cut := range data {
					if got, err := Unpack(f, data[:cut]); !Same(got, api.Raster{}) || err != api.ErrMalformed {
						t.Fatal(f, cut, got, err)
					}
				}
				for more := 1; more < 70; more++ {
					if got, err := Unpack(f, slices.Concat(data, make([]byte, more))); !Same(got, api.Raster{}) || err != api.ErrMalformed {
						t.Fatal(f, more, got, err)
					}
				}
				for range 60 {
					other := slices.Clone(data)
					other[pick(&seed, len(other))] ^= 1 << pick(&seed, 8)
					checkUnpack(t, f, other)
					other[pick(&seed, len(other))] = byte(pick(&seed, 256))
					checkUnpack(t, f, other)
				}
			}
		}
	}
}

func TestUnpackAnything(t *testing.T) {
	seed := uint64(16)
	for range 200 {
		for _, h := range sorts() {
			f := someForm(&seed, sized(h, 1+pick(&seed, 9), 1+pick(&seed, 5), pick(&seed, 2)))
			data := plainPack(f, someRaster(&seed, f), always(0))
			for i := range data {
				data[i] = byte(pick(&seed, 5))
			}
			checkUnpack(t, f, data)
		}
	}
}

// Each index beyond the palette is refused, at each place.
func TestUnpackIndexes(t *testing.T) {
	for _, depth := range []int{1, 2, 4, 8} {
		for size := 1; size <= 1<<depth; size += 1 + size/8 {
			f := Form{Head: api.Head{Width: 5, Height: 2, Depth: depth, Color: 3}, Palette: make([]api.Pixel, size)}
			for at := range 10 {
				for n := max(0, size-2); n < min(size+2, 1<<depth); n++ {
					numbers := make([]int, 10)
					numbers[at] = n
					data := slices.Concat([]byte{0}, plainRow(numbers[:5], depth), []byte{0}, plainRow(numbers[5:], depth))
					checkUnpack(t, f, data)
					if _, err := Unpack(f, data); (err == nil) != (n < size) {
						t.Fatal(depth, size, at, n, err)
					}
				}
			}
		}
	}
}

// Bits behind the last pixel of each row are anything.
func TestUnpackRemaining(t *testing.T) {
	seed := uint64(17)
	for _, h := range sorts() {
		if h.Depth >= 8 {
			continue
		}
		for width := 1; width <= 17; width++ {
			f := someForm(&seed, sized(h, width, 3, 0))
			r := someRaster(&seed, f)
			data := plainPack(f, r, always(0))
			size := len(data) / 3
			for row := 1; row <= 3; row++ {
				data[row*size-1] |= byte(1<<(8*(size-1)-width*h.Depth) - 1)
			}
			if got, err := Unpack(f, data); !Same(got, r) || err != nil {
				t.Fatal(f, r, data, got, err)
			}
		}
	}
}

// P17.1: Read

// wrapped is data as an IDAT has it.
func wrapped(t *testing.T, data []byte) []byte {
	t.Helper()
	b, err := squeeze.Plain(data)
	if err != nil {
		t.Fatal(err)
	}
	if b, err = zlib.Wrap(b, data, 32768); err != nil {
		t.Fatal(err)
	}
	return b
}

// librarys is data as the library packs it.
func librarys(data []byte) []byte {
	var out bytes.Buffer
	w := libzlib.NewWriter(&out)
	w.Write(data)
	w.Close()
	return out.Bytes()
}

func checkRead(t *testing.T, list []api.Chunk, want api.Raster, wantErr error) {
	t.Helper()
	if r, err := Read(list); !Same(r, want) || err != wantErr {
		t.Fatal(list, r, err, want, wantErr)
	}
}

func TestReadPieces(t *testing.T) {
	seed := uint64(18)
	for _, h := range sorts() {
		for laced := range 2 {
			f := someForm(&seed, sized(h, 1+pick(&seed, 7), 1+pick(&seed, 4), laced))
			r := someRaster(&seed, f)
			first := plainChunks(f)
			packed := wrapped(t, checkPack(t, f, r, -1))
			checkRead(t, ended(first, packed), r, nil)
			for cut := range len(packed) + 1 {
				checkRead(t, ended(first, packed[:cut], nil, packed[cut:]), r, nil)
				checkRead(t, ended(first, packed[:cut/2], packed[cut/2:cut], packed[cut:], nil), r, nil)
				if cut < len(packed) {
					checkRead(t, ended(first, packed[:cut]), api.Raster{}, api.ErrMalformed)
				}
			}
			single := slices.Collect(slices.Chunk(packed, 1))
			checkRead(t, ended(first, single...), r, nil)
			more := api.Chunk{Name: "tEXt", Data: []byte("k\x00v")}
			checkRead(t, slices.Concat(first, []api.Chunk{more}, ended(nil, packed)[:1], []api.Chunk{more, {Name: "IEND"}}), r, nil)
		}
	}
}

// What isn't a stream, or goes on behind one, is refused, whatever is wrong with it.
func TestReadStreams(t *testing.T) {
	seed := uint64(19)
	f := Form{Head: api.Head{Width: 4, Height: 3, Depth: 8}}
	r := someRaster(&seed, f)
	first := plainChunks(f)
	rows := checkPack(t, f, r, 0)
	packed := wrapped(t, rows)
	checkRead(t, ended(first, packed), r, nil)
	for at := range packed {
		for bit := range 8 {
			other := slices.Clone(packed)
			other[at] ^= 1 << bit
			// Every bit matters but five of the block's first byte.
			text, took, err := zlib.Unwrap(other, api.MaxPlain)
			if err != nil || took != len(other) {
				checkRead(t, ended(first, other), api.Raster{}, api.ErrMalformed)
			} else if !bytes.Equal(text, rows) {
				t.Fatal(at, bit)
			} else {
				checkRead(t, ended(first, other), r, nil)
			}
		}
	}
	for _, behind := range [][]byte{{0}, {255}, packed, packed[:2], make([]byte, 1000)} {
		checkRead(t, ended(first, packed, behind), api.Raster{}, api.ErrMalformed)
		checkRead(t, ended(first, slices.Concat(packed, behind)), api.Raster{}, api.ErrMalformed)
	}
	for _, none := range [][]byte{nil, {0}, {0x78}, {0x78, 1}, {0x78, 0x20}, {0x78, 0xbb, 0, 0, 0, 1}, {0x79, 1, 3, 0}, rows, []byte("not a stream")} {
		checkRead(t, ended(first, none), api.Raster{}, api.ErrMalformed)
	}
	// A stream of other than the rows' bytes: fewer, more, and more than there ever may be.
	for _, text := range [][]byte{nil, rows[:1], rows[:len(rows)-1], append(slices.Clone(rows), 0), append(slices.Clone(rows), rows...), append(slices.Clone(rows), make([]byte, 1<<20)...), append(slices.Clone(rows), make([]byte, 1<<22)...)} {
		checkRead(t, ended(first, librarys(text)), api.Raster{}, api.ErrMalformed)
	}
	for at := 0; at < len(rows); at += 5 {
		other := slices.Clone(rows)
		other[at] = 5
		checkRead(t, ended(first, wrapped(t, other)), api.Raster{}, api.ErrMalformed)
	}
}

// The largest raster there is.
func TestReadLargest(t *testing.T) {
	for laced := range 2 {
		f := Form{Head: api.Head{Width: 512, Height: 512, Depth: 16, Color: 6, Lace: laced}}
		r := api.Raster{Width: 512, Height: 512, Pixels: make([]api.Pixel, 1<<18)}
		for i := range r.Pixels {
			r.Pixels[i] = api.Pixel{R: i / 512 * 127, G: 65535, A: 40000}
		}
		rows, err := Pack(f, r, 4)
		if err != nil {
			t.Fatal(err)
		}
		if got, err := Read(ended(plainChunks(f), librarys(rows))); !Same(got, r) || err != nil {
			t.Fatal(laced, err)
		}
	}
}

// What Take refuses goes before what is wrong with the data.
func TestReadErrors(t *testing.T) {
	seed := uint64(20)
	for name, list := range wrongLists(t) {
		_, want := head.Order(list)
		if r, err := Read(list); !Same(r, api.Raster{}) || err != want {
			t.Error(name, r, err, want)
		}
	}
	for _, h := range sorts() {
		f := someForm(&seed, h)
		checkRead(t, ended(plainChunks(f), []byte("not a stream")), api.Raster{}, api.ErrMalformed)
		checkRead(t, ended(plainChunks(f), wrapped(t, nil)), api.Raster{}, api.ErrMalformed)
	}
	f := Form{Head: api.Head{Width: 1, Height: 1, Depth: 8, Color: 3}, Palette: []api.Pixel{{A: 65535}}}
	for n := range 256 {
		want, wantErr := plainUnpack(f, []byte{0, byte(n)})
		checkRead(t, ended(plainChunks(f), wrapped(t, []byte{0, byte(n)})), want, wantErr)
	}
}

// pixelOf is a color of the library.
func pixelOf(t *testing.T, c color.Color) api.Pixel {
	t.Helper()
	switch c := c.(type) {
	case color.Gray:
		return api.Pixel{R: 257 * int(c.Y), G: 257 * int(c.Y), B: 257 * int(c.Y), A: 65535}
	case color.Gray16:
		return api.Pixel{R: int(c.Y), G: int(c.Y), B: int(c.Y), A: 65535}
	case color.NRGBA:
		return api.Pixel{R: 257 * int(c.R), G: 257 * int(c.G), B: 257 * int(c.B), A: 257 * int(c.A)}
	case color.NRGBA64:
		return api.Pixel{R: int(c.R), G: int(c.G), B: int(c.B), A: int(c.A)}
	case color.RGBA: // of pictures without alpha
		return api.Pixel{R: 257 * int(c.R), G: 257 * int(c.G), B: 257 * int(c.B), A: 65535}
	case color.RGBA64:
		return api.Pixel{R: int(c.R), G: int(c.G), B: int(c.B), A: 65535}
	}
	t.Fatalf("%T", c)
	return api.Pixel{}
}

// rasterOf is a picture of the library.
func rasterOf(t *testing.T, img image.Image) api.Raster {
	t.Helper()
	r := api.Raster{Width: img.Bounds().Dx(), Height: img.Bounds().Dy()}
	for y := range r.Height {
		for x := range r.Width {
			r.Pixels = append(r.Pixels, pixelOf(t, img.At(x, y)))
		}
	}
	return r
}

// The library reads what is packed in any form, with the chunks that say the form.
func TestLibraryReads(t *testing.T) {
	seed := uint64(21)
	for range 40 {
		for _, h := range sorts() {
			f := someForm(&seed, sized(h, 1+pick(&seed, 20), 1+pick(&seed, 20), pick(&seed, 2)))
			r := someRaster(&seed, f)
			first, err := f.Chunks()
			if err != nil {
				t.Fatal(err)
			}
			b, err := Pack(f, r, pick(&seed, 6)-1)
			if err != nil {
				t.Fatal(err)
			}
			file, err := chunk.Write(ended(first, wrapped(t, b)))
			if err != nil {
				t.Fatal(err)
			}
			img, err := png.Decode(bytes.NewReader(file))
			if err != nil {
				t.Fatal(f, err)
			}
			if got := rasterOf(t, img); !Same(got, r) {
				t.Fatal(f, r, got)
			}
		}
	}
}

// somePicture is a picture of the library, of one of its sorts.
func somePicture(seed *uint64, sort int) image.Image {
	box := image.Rect(0, 0, 1+pick(seed, 40), 1+pick(seed, 40))
	fill := func(pix []byte, opaque bool, step, size int) {
		for i := range pix {
			pix[i] = byte(pick(seed, 256))
			if opaque && i%step >= step-size {
				pix[i] = 255
			}
		}
	}
	switch sort {
	case 0:
		m := image.NewGray(box)
		fill(m.Pix, false, 1, 1)
		return m
	case 1:
		m := image.NewGray16(box)
		fill(m.Pix, false, 1, 1)
		return m
	case 2, 3:
		m := image.NewNRGBA(box)
		fill(m.Pix, sort == 3, 4, 1)
		return m
	case 4, 5:
		m := image.NewNRGBA64(box)
		fill(m.Pix, sort == 5, 8, 2)
		return m
	}
	var colors color.Palette
	for range 1 + pick(seed, 256) {
		p := someEntry(seed)
		colors = append(colors, color.NRGBA{R: byte(p.R), G: byte(p.G), B: byte(p.B), A: byte(p.A)})
	}
	m := image.NewPaletted(box, colors)
	for i := range m.Pix {
		m.Pix[i] = byte(pick(seed, len(colors)))
	}
	return m
}

// What the library writes is read.
func TestLibraryWrites(t *testing.T) {
	seed := uint64(22)
	for range 25 {
		for sort := range 7 {
			img := somePicture(&seed, sort)
			var file bytes.Buffer
			if err := png.Encode(&file, img); err != nil {
				t.Fatal(err)
			}
			list, err := chunk.Parse(file.Bytes())
			if err != nil {
				t.Fatal(err)
			}
			if r, err := Read(list); !Same(r, rasterOf(t, img)) || err != nil {
				t.Fatal(sort, img.Bounds(), err)
			}
		}
	}
}

// P17.1: Same

func TestSame(t *testing.T) {
	one := api.Raster{Width: 2, Height: 1, Pixels: []api.Pixel{{R: 1, G: 2, B: 3, A: 4}, {}}}
	two := api.Raster{Width: 2, Height: 1, Pixels: slices.Clone(one.Pixels)}
	if !Same(one, two) || !Same(one, one) || !Same(api.Raster{}, api.Raster{Pixels: []api.Pixel{}}) || !Same(api.Raster{Width: -1}, api.Raster{Width: -1}) {
		t.Error("not the same")
	}
	others := []api.Raster{
		{}, {Width: 2, Height: 1}, {Width: 2, Height: 1, Pixels: one.Pixels[:1]}, {Width: 2, Height: 1, Pixels: append(slices.Clone(one.Pixels), api.Pixel{})},
		{Width: 1, Height: 2, Pixels: one.Pixels}, {Width: 2, Height: 2, Pixels: one.Pixels}, {Width: 3, Height: 1, Pixels: one.Pixels}, {Width: math.MinInt, Height: 1, Pixels: one.Pixels},
		{Width: 2, Height: 1, Pixels: []api.Pixel{one.Pixels[1], one.Pixels[0]}},
	}
	for at := range 2 {
		for field := range 4 {
			for _, by := range []int{-1, 1, 1 << 16, 1 << 32} {
				pixels := slices.Clone(one.Pixels)
				pixels[at] = changed(pixels[at], field, by)
				others = append(others, api.Raster{Width: 2, Height: 1, Pixels: pixels})
			}
		}
	}
	for i, a := range others {
		if Same(one, a) || Same(a, one) {
			t.Error(a)
		}
		for j, b := range others {
			if Same(a, b) != (i == j) {
				t.Error(a, b)
			}
		}
	}
}

// P17.3

// roomy is a list with others in the room behind it.
func roomy[T any](list []T, more ...T) []T {
	return append(slices.Clone(list), more...)[:len(list)]
}

// whole is a copy of a list with the room behind it.
func whole[T any](list []T) []T {
	return slices.Clone(list[:cap(list)])
}

// spoil writes over a list, and over the room behind it.
func spoil[T any](list []T, with T) {
	list = list[:cap(list)]
	for i := range list {
		list[i] = with
	}
}

// checkApart holds three answers of one call against each other. Whatever is done to one of them, and to the room behind it, changes neither the arguments (told by stays) nor another one.
func checkApart[T any](t *testing.T, call func() T, same func(a, b T) bool, spoilAnswer func(T), stays func() bool) {
	t.Helper()
	one, two := call(), call()
	if !same(one, two) || !stays() {
		t.Fatal("two answers differ, or an argument is changed")
	}
	spoilAnswer(one)
	if !stays() {
		t.Fatal("an answer shares memory with an argument")
	}
	if three := call(); !same(two, three) || same(one, three) {
		t.Fatal("two answers share memory")
	}
}

var spoilt = api.Pixel{R: -7, G: -7, B: -7, A: -7}

// roomyForm is a form with room behind its lists, and whether it is as it was.
func roomyForm(f Form) (Form, func() bool) {
	f.Palette = roomy(f.Palette, api.Pixel{R: 5}, api.Pixel{R: 6})
	f.Key = roomy(f.Key, 8, 9, 10)
	palette, key := whole(f.Palette), whole(f.Key)
	return f, func() bool { return slices.Equal(whole(f.Palette), palette) && slices.Equal(whole(f.Key), key) }
}

func spoilChunks(list []api.Chunk) {
	for _, c := range list {
		spoil(c.Data, 0x5a)
	}
	spoil(list, api.Chunk{Name: "none"})
}

func spoilRaster(r api.Raster) {
	spoil(r.Pixels, spoilt)
}

func TestFormsStay(t *testing.T) {
	seed := uint64(23)
	for range 30 {
		for _, h := range sorts() {
			f, stays := roomyForm(someForm(&seed, h))
			numbers := roomy(someNumbers(&seed, f), 1, 2, 3, 4)
			held := whole(numbers)
			p, _ := plainPixel(f, numbers)
			checkApart(t, func() []api.Chunk { list, _ := f.Chunks(); return list }, sameChunks, spoilChunks, stays)
			checkApart(t, func() []int { list, _ := f.Numbers(p); return list }, slices.Equal[[]int], func(list []int) { spoil(list, -7) }, stays)
			if q, ok := f.Pixel(numbers); q != p || !ok || f.Check() != nil || !stays() || !slices.Equal(whole(numbers), held) {
				t.Fatal(f, numbers, q, ok)
			}
		}
	}
}

func TestRastersStay(t *testing.T) {
	seed := uint64(24)
	for range 20 {
		for _, h := range sorts() {
			f, formStays := roomyForm(someForm(&seed, sized(h, 1+pick(&seed, 9), 1+pick(&seed, 9), pick(&seed, 2))))
			r := someRaster(&seed, f)
			kind := pick(&seed, 6) - 1
			data := roomy(plainPack(f, r, always(kind)), 1, 2, 3, 4)
			r.Pixels = roomy(r.Pixels, api.Pixel{R: 3}, api.Pixel{R: 4})
			pixels, heldData := whole(r.Pixels), whole(data)
			stays := func() bool {
				return formStays() && slices.Equal(whole(r.Pixels), pixels) && bytes.Equal(whole(data), heldData)
			}
			checkApart(t, func() api.Raster { got, _ := Unpack(f, data); return got }, Same, spoilRaster, stays)
			checkApart(t, func() []byte { b, _ := Pack(f, r, kind); return b }, bytes.Equal, func(b []byte) { spoil(b, 0x5a) }, stays)
			if !Same(r, r) || !stays() {
				t.Fatal(r)
			}
		}
	}
}

// roomyChunks is chunks with room behind them and their data, and whether they are as they were.
func roomyChunks(list []api.Chunk) ([]api.Chunk, func() bool) {
	out := roomy(list, api.Chunk{Name: "more", Data: []byte("behind")})
	for i := range out {
		out[i].Data = roomy(out[i].Data, 1, 2, 3, 4, 5)
	}
	deep := func() []api.Chunk {
		held := whole(out)
		for i := range held {
			held[i].Data = whole(held[i].Data)
		}
		return held
	}
	held := deep()
	return out, func() bool { return sameChunks(deep(), held) }
}

func TestChunksStay(t *testing.T) {
	seed := uint64(25)
	for range 20 {
		for _, h := range sorts() {
			f := someForm(&seed, sized(h, 1+pick(&seed, 9), 1+pick(&seed, 9), pick(&seed, 2)))
			packed := wrapped(t, plainPack(f, someRaster(&seed, f), always(0)))
			list, stays := roomyChunks(ended(plainChunks(f), packed[:3], packed[3:]))
			checkApart(t, func() api.Raster { r, _ := Read(list); return r }, Same, spoilRaster, stays)
			if len(f.Palette)+len(f.Key) > 0 {
				checkApart(t, func() Form { g, _ := Take(list); return g }, sameForm, func(g Form) {
					spoil(g.Palette, spoilt)
					spoil(g.Key, -7)
				}, stays)
			}
		}
	}
}

// Nothing is kept of an argument: the same memory is filled anew each time.
func TestNothingIsKept(t *testing.T) {
	seed := uint64(27)
	palette, key, numbers := make([]api.Pixel, 256), make([]int, 3), make([]int, 4)
	pixels, data, list := make([]api.Pixel, 100), make([]byte, 2000), make([]api.Chunk, 5)
	for range 100 {
		for _, h := range sorts() {
			f := someForm(&seed, sized(h, 1+pick(&seed, 9), 1+pick(&seed, 9), pick(&seed, 2)))
			f.Palette = palette[:copy(palette, f.Palette)]
			f.Key = key[:copy(key, f.Key)]
			checkChunks(t, f)
			n := someNumbers(&seed, f)
			checkPixel(t, f, numbers[:copy(numbers, n)])
			p, _ := plainPixel(f, n)
			checkNumbers(t, f, p)
			r := someRaster(&seed, f)
			r.Pixels = pixels[:copy(pixels, r.Pixels)]
			b := checkPack(t, f, r, pick(&seed, 6)-1)
			checkUnpack(t, f, data[:copy(data, b)])
			packed := wrapped(t, b)
			checkRead(t, list[:copy(list, ended(plainChunks(f), data[:copy(data, packed)]))], r, nil)
		}
	}
}

// No two of a form's chunks share memory.
func TestChunksApart(t *testing.T) {
	seed := uint64(26)
	for _, h := range sorts() {
		f := someForm(&seed, h)
		want := plainChunks(f)
		for spoiltAt := range want {
			list, err := f.Chunks()
			if err != nil {
				t.Fatal(err)
			}
			spoil(list[spoiltAt].Data, 0x5a)
			_ = append(list[spoiltAt].Data, "and more than that"...)
			for i, c := range list {
				if i != spoiltAt && !bytes.Equal(c.Data, want[i].Data) {
					t.Fatal(f, spoiltAt, i, c)
				}
			}
		}
	}
}
