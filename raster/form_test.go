package raster

import (
	"bytes"
	"encoding/binary"
	"math"
	"slices"
	"testing"

	"burnish/api"
	"burnish/head"
)

// wild is numbers that are far from any that a form has.
var wild = []int{math.MinInt, math.MinInt + 1, -1 << 62, -1 << 32, -65536, -65535, -257, -256, -2, -1, 65536, 65537, 65792, 131070, 1 << 31, 1<<32 - 1, 1 << 32, 1<<32 + 1, 1<<32 + 257, 1 << 62, math.MaxInt - 1, math.MaxInt}

func sameForm(a, b Form) bool {
	return a.Head == b.Head && slices.Equal(a.Palette, b.Palette) && slices.Equal(a.Key, b.Key)
}

func sameChunks(a, b []api.Chunk) bool {
	return slices.EqualFunc(a, b, func(c, d api.Chunk) bool { return c.Name == d.Name && bytes.Equal(c.Data, d.Data) })
}

// checkForm holds Check against what it should be, and what the other calls tell of a form that isn't one.
func checkForm(t *testing.T, f Form) {
	t.Helper()
	want := plainCheck(f)
	if err := f.Check(); err != want {
		t.Fatalf("%v: %v, want %v", f, err, want)
	}
	if want == nil {
		return
	}
	if list, err := f.Chunks(); list != nil || err != api.ErrForm {
		t.Fatal(f, list, err)
	}
	for _, numbers := range [][]int{nil, {0}, {0, 0}, {0, 0, 0}, {0, 0, 0, 0}} {
		if p, ok := f.Pixel(numbers); p != (api.Pixel{}) || ok {
			t.Fatal(f, numbers, p, ok)
		}
	}
	for _, p := range append([]api.Pixel{{}, {A: 65535}}, f.Palette[:min(3, len(f.Palette))]...) {
		if numbers, ok := f.Numbers(p); numbers != nil || ok {
			t.Fatal(f, p, numbers, ok)
		}
	}
	r := api.Raster{Width: f.Head.Width, Height: f.Head.Height, Pixels: []api.Pixel{{A: 65535}}}
	if b, err := Pack(f, r, 0); b != nil || err != api.ErrForm {
		t.Fatal(f, b, err)
	}
	for _, data := range [][]byte{nil, {0}, {0, 0}, {5, 0}, make([]byte, 9)} {
		if got, err := Unpack(f, data); !Same(got, api.Raster{}) || err != api.ErrForm {
			t.Fatal(f, data, got, err)
		}
	}
}

// P17.1: Check

func TestCheckHeads(t *testing.T) {
	seed := uint64(1)
	for _, h := range sorts() {
		good := someForm(&seed, h)
		checkForm(t, good)
		for _, lace := range append([]int{-1, 0, 1, 2, 7}, wild...) {
			f := good
			f.Head.Lace = lace
			checkForm(t, f)
		}
		for _, side := range append([]int{-1, 0, 1, 2, 512, 65535}, wild...) {
			for _, other := range []int{1, 4, 5, 65535, 0, math.MaxInt} {
				f := good
				f.Head.Width, f.Head.Height = side, other
				if side <= 65535 && other <= 65535 || other == 1 {
					checkForm(t, f)
				}
				f.Head.Width, f.Head.Height = other, side
				if err := f.Check(); side > 65535 && err != api.ErrForm {
					t.Fatal(f.Head, err)
				}
			}
		}
		for _, sides := range [][2]int{{512, 512}, {513, 512}, {65535, 4}, {65535, 5}, {65535, 65535}, {1 << 18, 1}} {
			checkForm(t, Form{Head: sized(h, sides[0], sides[1], 0), Palette: good.Palette, Key: good.Key})
			checkForm(t, Form{Head: sized(h, sides[1], sides[0], 1), Palette: good.Palette, Key: good.Key})
		}
	}
	for color := -1; color < 9; color++ {
		for depth := -1; depth < 34; depth++ {
			h := api.Head{Width: 1, Height: 1, Depth: depth, Color: color}
			checkForm(t, Form{Head: h})
			checkForm(t, Form{Head: h, Palette: []api.Pixel{{A: 65535}}})
			checkForm(t, Form{Head: h, Key: []int{0}})
			checkForm(t, Form{Head: h, Key: []int{0, 0, 0}})
		}
	}
	for _, n := range wild {
		checkForm(t, Form{Head: api.Head{Width: 1, Height: 1, Depth: n}})
		checkForm(t, Form{Head: api.Head{Width: 1, Height: 1, Depth: 8, Color: n}})
		checkForm(t, Form{Head: api.Head{Width: 1, Height: 1, Depth: n, Color: 3}, Palette: []api.Pixel{{}}})
	}
	checkForm(t, Form{})
}

func TestCheckPalettes(t *testing.T) {
	seed := uint64(2)
	var long []api.Pixel
	for range 1000 {
		long = append(long, someEntry(&seed))
	}
	for _, h := range sorts() {
		for size := range 260 {
			checkForm(t, Form{Head: h, Palette: long[:size]})
		}
		checkForm(t, Form{Head: h, Palette: long})
		checkForm(t, Form{Head: h, Palette: []api.Pixel{}, Key: []int{}})
	}
	// Each number of a palette's pixel is one of 256.
	for _, h := range sorts() {
		if h.Color != 3 {
			continue
		}
		for n := -600; n < 66200; n++ {
			for at, p := range []api.Pixel{{R: n}, {G: n}, {B: n}, {A: n}} {
				if (n+at)%7 == 0 || n%257 < 2 || n < 600 {
					list := []api.Pixel{{A: 65535}, p}
					want := plainCheck(Form{Head: h, Palette: list})
					if err := (Form{Head: h, Palette: list}).Check(); err != want {
						t.Fatal(h, list, err)
					}
				}
			}
		}
		for _, n := range wild {
			for _, p := range []api.Pixel{{R: n}, {G: n}, {B: n}, {A: n}} {
				checkForm(t, Form{Head: h, Palette: []api.Pixel{p}})
				checkForm(t, Form{Head: h, Palette: []api.Pixel{{}, p}})
			}
		}
	}
}

func TestCheckKeys(t *testing.T) {
	for _, h := range sorts() {
		var entries []api.Pixel
		if h.Color == 3 {
			entries = []api.Pixel{{A: 65535}}
		}
		for count := range 8 {
			checkForm(t, Form{Head: h, Palette: entries, Key: make([]int, count)})
		}
		top := 1<<h.Depth - 1
		for _, n := range append([]int{0, 1, top - 1, top, top + 1, 2 * top, -top, 65535}, wild...) {
			checkForm(t, Form{Head: h, Palette: entries, Key: []int{n}})
			for at := range 3 {
				key := []int{0, top, 0}
				key[at] = n
				checkForm(t, Form{Head: h, Palette: entries, Key: key})
			}
		}
	}
}

// P17.1: Pixel and Numbers

func checkPixel(t *testing.T, f Form, numbers []int) {
	t.Helper()
	want, wantOk := plainPixel(f, numbers)
	if p, ok := f.Pixel(numbers); p != want || ok != wantOk {
		t.Fatal(f, numbers, p, ok)
	}
}

// checkNumbers holds Numbers against what it should be, and Pixel of what it answers (P17.2).
func checkNumbers(t *testing.T, f Form, p api.Pixel) {
	t.Helper()
	want, wantOk := plainNumbers(f, p)
	numbers, ok := f.Numbers(p)
	if !slices.Equal(numbers, want) || ok != wantOk || !ok && numbers != nil {
		t.Fatal(f, p, numbers, ok)
	}
	if !ok {
		return
	}
	if back, ok := f.Pixel(numbers); back != p || !ok {
		t.Fatal(f, p, numbers, back)
	}
}

func TestPixelKnown(t *testing.T) {
	for _, x := range []struct {
		f       Form
		numbers []int
		want    api.Pixel
	}{
		{Form{Head: api.Head{Width: 1, Height: 1, Depth: 1}, Key: []int{0}}, []int{0}, api.Pixel{}},
		{Form{Head: api.Head{Width: 1, Height: 1, Depth: 1}, Key: []int{0}}, []int{1}, api.Pixel{R: 65535, G: 65535, B: 65535, A: 65535}},
		{Form{Head: api.Head{Width: 1, Height: 1, Depth: 1}}, []int{0}, api.Pixel{A: 65535}},
		{Form{Head: api.Head{Width: 1, Height: 1, Depth: 4}, Key: []int{3}}, []int{3}, api.Pixel{R: 13107, G: 13107, B: 13107}},
		{Form{Head: api.Head{Width: 1, Height: 1, Depth: 8, Color: 2}, Key: []int{1, 2, 3}}, []int{1, 2, 3}, api.Pixel{R: 257, G: 514, B: 771}},
		{Form{Head: api.Head{Width: 1, Height: 1, Depth: 8, Color: 2}, Key: []int{1, 2, 3}}, []int{1, 2, 4}, api.Pixel{R: 257, G: 514, B: 1028, A: 65535}},
		{Form{Head: api.Head{Width: 1, Height: 1, Depth: 16, Color: 2}, Key: []int{1, 2, 3}}, []int{1, 2, 3}, api.Pixel{R: 1, G: 2, B: 3}},
		{Form{Head: api.Head{Width: 1, Height: 1, Depth: 8, Color: 3}, Palette: []api.Pixel{{R: 257}, {B: 514, A: 257}}}, []int{1}, api.Pixel{B: 514, A: 257}},
		{Form{Head: api.Head{Width: 1, Height: 1, Depth: 16, Color: 4}}, []int{7, 9}, api.Pixel{R: 7, G: 7, B: 7, A: 9}},
		{Form{Head: api.Head{Width: 1, Height: 1, Depth: 8, Color: 4}}, []int{7, 9}, api.Pixel{R: 1799, G: 1799, B: 1799, A: 2313}},
		{Form{Head: api.Head{Width: 1, Height: 1, Depth: 8, Color: 6}}, []int{1, 2, 3, 4}, api.Pixel{R: 257, G: 514, B: 771, A: 1028}},
		{Form{Head: api.Head{Width: 1, Height: 1, Depth: 16, Color: 6}}, []int{1, 2, 3, 0}, api.Pixel{R: 1, G: 2, B: 3}},
	} {
		if p, ok := x.f.Pixel(x.numbers); p != x.want || !ok {
			t.Error(x, p, ok)
		}
		if numbers, ok := x.f.Numbers(x.want); !slices.Equal(numbers, x.numbers) || !ok {
			t.Error(x, numbers, ok)
		}
	}
}

// All numbers of grey pixels with all keys, and beyond them.
func TestGreys(t *testing.T) {
	for _, depth := range []int{1, 2, 4, 8} {
		for key := -1; key < 1<<depth; key++ {
			f := Form{Head: api.Head{Width: 1, Height: 1, Depth: depth}}
			if key >= 0 {
				f.Key = []int{key}
			}
			for n := -3; n < 1<<depth+3; n++ {
				checkPixel(t, f, []int{n})
				if p, ok := plainPixel(f, []int{n}); ok {
					checkNumbers(t, f, p)
					p.A = 65535 - p.A
					checkNumbers(t, f, p)
					p.A = 1
					checkNumbers(t, f, p)
				}
			}
		}
	}
	for n := -2; n < 65540; n++ {
		f := Form{Head: api.Head{Width: 1, Height: 1, Depth: 16}, Key: []int{n / 3 & 65535}}
		checkPixel(t, f, []int{n})
		checkPixel(t, f, []int{f.Key[0]})
	}
}

// All grey values of 16 bits in each form that might hold them.
func TestNumbersOfGreys(t *testing.T) {
	seed := uint64(3)
	for _, h := range sorts() {
		f := someForm(&seed, h)
		for n := range 65536 {
			for _, alpha := range []int{0, 65535, n} {
				checkNumbers(t, f, api.Pixel{R: n, G: n, B: n, A: alpha})
				if n%64 != 0 && n%257 != 0 {
					break
				}
			}
		}
	}
}

// edges is values that one depth has and another hasn't.
var edges = []int{0, 1, 255, 256, 257, 4369, 4370, 21845, 32767, 32768, 43690, 65278, 65279, 65534, 65535}

func TestNumbersOfEdges(t *testing.T) {
	seed := uint64(4)
	for _, h := range sorts() {
		for range 3 {
			f := someForm(&seed, h)
			for _, r := range edges {
				for _, g := range edges {
					for _, b := range []int{r, g, 0, 65535, 257} {
						for _, a := range []int{0, 1, 257, 65535} {
							checkNumbers(t, f, api.Pixel{R: r, G: g, B: b, A: a})
						}
					}
				}
			}
			for _, n := range wild {
				for _, p := range []api.Pixel{{R: n, G: n, B: n, A: 65535}, {R: n, A: 65535}, {G: n, A: 65535}, {B: n, A: 65535}, {A: n}, {R: n, G: n, B: n, A: n}} {
					checkNumbers(t, f, p)
				}
			}
		}
	}
}

// changed is a pixel with one of its numbers changed by so much.
func changed(p api.Pixel, at, by int) api.Pixel {
	n := [4]int{p.R, p.G, p.B, p.A}
	n[at] += by
	return api.Pixel{R: n[0], G: n[1], B: n[2], A: n[3]}
}

func TestNumbersOfForms(t *testing.T) {
	seed := uint64(5)
	for range 60 {
		for _, h := range sorts() {
			f := someForm(&seed, h)
			if err := f.Check(); err != nil {
				t.Fatal(f, err)
			}
			for range 20 {
				numbers := someNumbers(&seed, f)
				checkPixel(t, f, numbers)
				p, _ := plainPixel(f, numbers)
				checkNumbers(t, f, p)
				for at := range 4 {
					for _, by := range []int{-65535, -257, -1, 1, 257, 65535, 1 << 16, 1 << 32} {
						checkNumbers(t, f, changed(p, at, by))
					}
				}
				for at := range numbers {
					for _, n := range append([]int{0, 1<<h.Depth - 1, 1 << h.Depth, len(f.Palette), len(f.Palette) - 1}, wild...) {
						other := slices.Clone(numbers)
						other[at] = n
						checkPixel(t, f, other)
					}
				}
				for count := range 7 {
					checkPixel(t, f, make([]int, count))
					checkPixel(t, f, slices.Repeat(numbers, 4)[:min(count, 4*len(numbers))])
				}
			}
		}
	}
}

// The palette's first pixel of equal ones is meant, and the colors of transparent ones matter.
func TestNumbersOfPalettes(t *testing.T) {
	one, two := api.Pixel{R: 257}, api.Pixel{G: 257}
	f := Form{Head: api.Head{Width: 1, Height: 1, Depth: 2, Color: 3}, Palette: []api.Pixel{two, one, one, two}}
	for want, p := range []api.Pixel{two, one} {
		if numbers, ok := f.Numbers(p); !slices.Equal(numbers, []int{want}) || !ok {
			t.Error(p, numbers, ok)
		}
	}
	for _, p := range []api.Pixel{{}, {R: 257, A: 257}, {R: 1}, {B: 257}} {
		if numbers, ok := f.Numbers(p); numbers != nil || ok {
			t.Error(p, numbers, ok)
		}
	}
	seed := uint64(6)
	for size := 1; size <= 256; size++ {
		f := Form{Head: api.Head{Width: 1, Height: 1, Depth: 8, Color: 3}}
		for range size {
			f.Palette = append(f.Palette, someEntry(&seed))
		}
		for n := -2; n < size+2; n++ {
			checkPixel(t, f, []int{n})
		}
		for _, p := range f.Palette {
			checkNumbers(t, f, p)
		}
	}
}

// P17.1: Chunks and Take

// plainChunks is the chunks of a good form.
func plainChunks(f Form) []api.Chunk {
	h := f.Head
	first := binary.BigEndian.AppendUint32(nil, uint32(h.Width))
	first = binary.BigEndian.AppendUint32(first, uint32(h.Height))
	out := []api.Chunk{{Name: "IHDR", Data: append(first, byte(h.Depth), byte(h.Color), 0, 0, byte(h.Lace))}}
	var colors, alphas, key []byte
	for _, p := range f.Palette {
		colors = append(colors, byte(p.R>>8), byte(p.G>>8), byte(p.B>>8))
		alphas = append(alphas, byte(p.A>>8))
	}
	for len(alphas) > 0 && alphas[len(alphas)-1] == 255 {
		alphas = alphas[:len(alphas)-1]
	}
	for _, n := range f.Key {
		key = binary.BigEndian.AppendUint16(key, uint16(n))
	}
	if colors != nil {
		out = append(out, api.Chunk{Name: "PLTE", Data: colors})
	}
	if b := slices.Concat(alphas, key); len(b) > 0 {
		out = append(out, api.Chunk{Name: "tRNS", Data: b})
	}
	return out
}

// ended is chunks with the data and the end behind them.
func ended(list []api.Chunk, data ...[]byte) []api.Chunk {
	out := slices.Clone(list)
	for _, b := range data {
		out = append(out, api.Chunk{Name: "IDAT", Data: b})
	}
	return append(out, api.Chunk{Name: "IEND"})
}

// checkChunks holds Chunks of a good form against what they should be, and Take of them.
func checkChunks(t *testing.T, f Form) {
	t.Helper()
	list, err := f.Chunks()
	if !sameChunks(list, plainChunks(f)) || err != nil {
		t.Fatal(f, list, err)
	}
	back, err := Take(ended(list, nil))
	if !sameForm(back, f) || err != nil {
		t.Fatal(f, back, err)
	}
}

func TestChunksKnown(t *testing.T) {
	for _, x := range []struct {
		f    Form
		want []api.Chunk
	}{
		{Form{Head: api.Head{Width: 258, Height: 3, Depth: 16, Lace: 1}, Key: []int{0x1234}}, []api.Chunk{
			{Name: "IHDR", Data: []byte{0, 0, 1, 2, 0, 0, 0, 3, 16, 0, 0, 0, 1}}, {Name: "tRNS", Data: []byte{0x12, 0x34}}}},
		{Form{Head: api.Head{Width: 1, Height: 1, Depth: 8, Color: 2}, Key: []int{1, 2, 255}}, []api.Chunk{
			{Name: "IHDR", Data: []byte{0, 0, 0, 1, 0, 0, 0, 1, 8, 2, 0, 0, 0}}, {Name: "tRNS", Data: []byte{0, 1, 0, 2, 0, 255}}}},
		{Form{Head: api.Head{Width: 1, Height: 1, Depth: 1, Color: 3}, Palette: []api.Pixel{{R: 257, G: 514, B: 771, A: 65535}, {A: 1028}}}, []api.Chunk{
			{Name: "IHDR", Data: []byte{0, 0, 0, 1, 0, 0, 0, 1, 1, 3, 0, 0, 0}}, {Name: "PLTE", Data: []byte{1, 2, 3, 0, 0, 0}}, {Name: "tRNS", Data: []byte{255, 4}}}},
		{Form{Head: api.Head{Width: 1, Height: 1, Depth: 2, Color: 3}, Palette: []api.Pixel{{}, {A: 65535}, {A: 65278}, {A: 65535}}}, []api.Chunk{
			{Name: "IHDR", Data: []byte{0, 0, 0, 1, 0, 0, 0, 1, 2, 3, 0, 0, 0}}, {Name: "PLTE", Data: make([]byte, 12)}, {Name: "tRNS", Data: []byte{0, 255, 254}}}},
		{Form{Head: api.Head{Width: 1, Height: 1, Depth: 1, Color: 3}, Palette: []api.Pixel{{A: 65535}, {A: 65535}}}, []api.Chunk{
			{Name: "IHDR", Data: []byte{0, 0, 0, 1, 0, 0, 0, 1, 1, 3, 0, 0, 0}}, {Name: "PLTE", Data: make([]byte, 6)}}},
		{Form{Head: api.Head{Width: 1, Height: 1, Depth: 8, Color: 6}}, []api.Chunk{
			{Name: "IHDR", Data: []byte{0, 0, 0, 1, 0, 0, 0, 1, 8, 6, 0, 0, 0}}}},
	} {
		if list, err := x.f.Chunks(); !sameChunks(list, x.want) || err != nil {
			t.Error(x, list, err)
		}
		checkChunks(t, x.f)
	}
}

func TestChunksOfForms(t *testing.T) {
	seed := uint64(7)
	for range 100 {
		for _, h := range sorts() {
			f := someForm(&seed, sized(h, 1+pick(&seed, 300), 1+pick(&seed, 300), pick(&seed, 2)))
			// Some palettes are opaque from some pixel on, or all of them.
			for i := pick(&seed, 300); i < len(f.Palette); i++ {
				f.Palette[i].A = 65535
			}
			checkChunks(t, f)
		}
	}
	for _, h := range sorts() {
		if h.Color == 3 {
			for size := 1; size <= 1<<h.Depth; size++ {
				checkChunks(t, Form{Head: h, Palette: slices.Repeat([]api.Pixel{{R: 257 * (size % 256), A: 65535}}, size)})
				checkChunks(t, Form{Head: h, Palette: make([]api.Pixel, size)})
			}
		}
	}
}

// firstOf is the IHDR of a head.
func firstOf(t *testing.T, h api.Head) api.Chunk {
	t.Helper()
	data, err := head.Put(h)
	if err != nil {
		t.Fatal(err)
	}
	return api.Chunk{Name: "IHDR", Data: data}
}

func TestTakeKnown(t *testing.T) {
	one := api.Head{Width: 1, Height: 1, Depth: 8}
	colors := api.Chunk{Name: "PLTE", Data: []byte{1, 2, 3, 4, 5, 6, 7, 8, 9}}
	other := api.Chunk{Name: "tEXt", Data: []byte("PLTE")}
	for _, x := range []struct {
		color int
		list  []api.Chunk
		want  Form
	}{
		{0, nil, Form{}},
		{0, []api.Chunk{other, {Name: "tRNS", Data: []byte{0, 7}}, other}, Form{Key: []int{7}}},
		{2, []api.Chunk{{Name: "tRNS", Data: []byte{0, 7, 0, 0, 0, 255}}}, Form{Key: []int{7, 0, 255}}},
		// A palette beside colors isn't the form's.
		{2, []api.Chunk{colors}, Form{}},
		{2, []api.Chunk{colors, {Name: "tRNS", Data: []byte{0, 7, 0, 0, 0, 255}}}, Form{Key: []int{7, 0, 255}}},
		{6, []api.Chunk{colors}, Form{}},
		{4, []api.Chunk{other}, Form{}},
		{3, []api.Chunk{colors}, Form{Palette: []api.Pixel{{R: 257, G: 514, B: 771, A: 65535}, {R: 1028, G: 1285, B: 1542, A: 65535}, {R: 1799, G: 2056, B: 2313, A: 65535}}}},
		{3, []api.Chunk{other, colors, other, {Name: "tRNS", Data: []byte{0, 9}}}, Form{Palette: []api.Pixel{{R: 257, G: 514, B: 771}, {R: 1028, G: 1285, B: 1542, A: 2313}, {R: 1799, G: 2056, B: 2313, A: 65535}}}},
		{3, []api.Chunk{colors, {Name: "tRNS", Data: []byte{255, 255, 1}}}, Form{Palette: []api.Pixel{{R: 257, G: 514, B: 771, A: 65535}, {R: 1028, G: 1285, B: 1542, A: 65535}, {R: 1799, G: 2056, B: 2313, A: 257}}}},
	} {
		h := one
		h.Color = x.color
		x.want.Head = h
		f, err := Take(ended(append([]api.Chunk{firstOf(t, h)}, x.list...), []byte("anything")))
		if !sameForm(f, x.want) || err != nil || f.Check() != nil {
			t.Error(x, f, err)
		}
	}
}

func TestTakeAlphas(t *testing.T) {
	seed := uint64(8)
	for _, h := range sorts() {
		if h.Color != 3 {
			continue
		}
		for size := 1; size <= 1<<h.Depth; size += 1 + size/16 {
			for told := 0; told <= size; told += 1 + told/16 {
				var colors, alphas []byte
				f := Form{Head: h}
				for i := range size {
					p := someEntry(&seed)
					colors = append(colors, byte(p.R>>8), byte(p.G>>8), byte(p.B>>8))
					if i < told {
						alphas = append(alphas, byte(p.A>>8))
					} else {
						p.A = 65535
					}
					f.Palette = append(f.Palette, p)
				}
				list := []api.Chunk{firstOf(t, h), {Name: "PLTE", Data: colors}}
				if told > 0 {
					list = append(list, api.Chunk{Name: "tRNS", Data: alphas})
				}
				if got, err := Take(ended(list, nil)); !sameForm(got, f) || err != nil {
					t.Fatal(f, told, got, err)
				}
			}
		}
	}
}

// wrongLists is chunks that aren't in order, and what is told of them.
func wrongLists(t *testing.T) map[string][]api.Chunk {
	t.Helper()
	grey, colors := firstOf(t, api.Head{Width: 1, Height: 1, Depth: 2}), firstOf(t, api.Head{Width: 1, Height: 1, Depth: 1, Color: 3})
	large := api.Chunk{Name: "IHDR", Data: []byte{0, 1, 0, 0, 0, 0, 0, 1, 8, 0, 0, 0, 0}}
	entry := api.Chunk{Name: "PLTE", Data: []byte{1, 2, 3}}
	data := []byte("anything")
	return map[string][]api.Chunk{
		"":                      nil,
		"IEND":                  {{Name: "IEND"}},
		"no end":                {grey, {Name: "IDAT", Data: data}},
		"no name":               ended([]api.Chunk{grey, {Name: "1234"}}, data),
		"more than a file":      ended([]api.Chunk{grey}, make([]byte, 1<<20)),
		"no head":               ended(nil, data),
		"head twice":            ended([]api.Chunk{grey, grey}, data),
		"short head":            ended([]api.Chunk{{Name: "IHDR", Data: make([]byte, 12)}}, data),
		"zero head":             ended([]api.Chunk{{Name: "IHDR", Data: make([]byte, 13)}}, data),
		"large head":            ended([]api.Chunk{large}, data),
		"no data":               ended([]api.Chunk{grey}),
		"no palette":            ended([]api.Chunk{colors}, data),
		"palette of grey":       ended([]api.Chunk{grey, entry}, data),
		"palette twice":         ended([]api.Chunk{colors, entry, entry}, data),
		"long palette":          ended([]api.Chunk{colors, {Name: "PLTE", Data: make([]byte, 9)}}, data),
		"odd palette":           ended([]api.Chunk{colors, {Name: "PLTE", Data: make([]byte, 4)}}, data),
		"empty palette":         ended([]api.Chunk{colors, {Name: "PLTE"}}, data),
		"late palette":          append(ended([]api.Chunk{colors}, data)[:2], entry, api.Chunk{Name: "IEND"}),
		"many alphas":           ended([]api.Chunk{colors, entry, {Name: "tRNS", Data: []byte{1, 2}}}, data),
		"no alphas":             ended([]api.Chunk{colors, entry, {Name: "tRNS"}}, data),
		"alphas ahead":          ended([]api.Chunk{colors, {Name: "tRNS", Data: []byte{1}}, entry}, data),
		"key out of range":      ended([]api.Chunk{grey, {Name: "tRNS", Data: []byte{0, 4}}}, data),
		"short key":             ended([]api.Chunk{grey, {Name: "tRNS", Data: []byte{0}}}, data),
		"long key":              ended([]api.Chunk{grey, {Name: "tRNS", Data: make([]byte, 6)}}, data),
		"key twice":             ended([]api.Chunk{grey, {Name: "tRNS", Data: []byte{0, 1}}, {Name: "tRNS", Data: []byte{0, 1}}}, data),
		"unknown critical":      ended([]api.Chunk{grey, {Name: "ABCD"}}, data),
		"unknown after a fault": ended([]api.Chunk{grey, entry, {Name: "ABCD"}}, data),
		"data apart":            append(ended([]api.Chunk{grey}, data)[:2], api.Chunk{Name: "tEXt"}, api.Chunk{Name: "IDAT"}, api.Chunk{Name: "IEND"}),
	}
}

func TestTakeWrong(t *testing.T) {
	told := map[error]int{}
	for name, list := range wrongLists(t) {
		_, want := head.Order(list)
		told[want]++
		if f, err := Take(list); !sameForm(f, Form{}) || err != want || err == nil {
			t.Error(name, f, err, want)
		}
		if r, err := Read(list); !Same(r, api.Raster{}) || err != want {
			t.Error(name, r, err, want)
		}
	}
	if len(told) != 4 || told[api.ErrForm] == 0 || told[api.ErrMalformed] == 0 || told[api.ErrUnsupported] == 0 || told[api.ErrTooLarge] == 0 {
		t.Error(told)
	}
}
