package raster

import (
	"slices"

	"burnish/api"
	"burnish/chunk"
	"burnish/head"
	"burnish/sample"
)

const (
	entryDepth = 8     // of the numbers of a palette's pixel
	keyDepth   = 16    // of a key's numbers in a tRNS, whatever the form's own depth
	opaque     = 65535 // the alpha where none is told
	opaqueByte = 255   // and as a palette's tRNS says it
)

// Form is how pixels stand in rows.
type Form struct {
	Head    api.Head
	Palette []api.Pixel
	Key     []int
}

// Check tells whether it is a form.
func (f Form) Check() error {
	if head.Check(f.Head) != nil || !f.goodPalette() || !f.goodKey() {
		return api.ErrForm
	}
	return nil
}

func (f Form) goodPalette() bool {
	if f.Head.Color != api.Palette {
		return len(f.Palette) == 0
	}
	if len(f.Palette) == 0 || len(f.Palette) > 1<<f.Head.Depth {
		return false
	}
	for _, p := range f.Palette {
		if !isEntry(p) {
			return false
		}
	}
	return true
}

// isEntry tells whether a palette can have a pixel.
func isEntry(p api.Pixel) bool {
	for _, wide := range [...]int{p.R, p.G, p.B, p.A} {
		if _, ok := sample.Narrow(wide, entryDepth); !ok {
			return false
		}
	}
	return true
}

func (f Form) goodKey() bool {
	if len(f.Key) == 0 {
		return true
	}
	if !keyed(f.Head.Color) || len(f.Key) != head.Channels(f.Head.Color) {
		return false
	}
	for _, n := range f.Key {
		if n < 0 || n >= 1<<f.Head.Depth {
			return false
		}
	}
	return true
}

// keyed tells whether a color type can have a key.
func keyed(color int) bool {
	return color == api.Grey || color == api.Color
}

// Take is chunks' form.
func Take(list []api.Chunk) (Form, error) {
	h, err := head.Order(list)
	if err != nil {
		return Form{}, err
	}
	f := Form{Head: h}
	transparent := joined(list, "tRNS")
	if h.Color == api.Palette {
		f.Palette = palette(joined(list, "PLTE"), transparent)
	}
	if keyed(h.Color) && len(transparent) > 0 {
		if f.Key, err = sample.Unpack(transparent, keyDepth, head.Channels(h.Color)); err != nil {
			return Form{}, err
		}
	}
	return f, nil
}

// joined is the data of all chunks of a name, one after the other.
func joined(list []api.Chunk, name string) []byte {
	var out []byte
	for _, c := range chunk.Find(list, name) {
		out = append(out, c.Data...)
	}
	return out
}

// palette is the pixels of PLTE's data and of tRNS's.
func palette(colors, alphas []byte) []api.Pixel {
	var out []api.Pixel
	for color := range slices.Chunk(colors, head.Channels(api.Color)) {
		alpha := opaqueByte
		if len(out) < len(alphas) {
			alpha = int(alphas[len(out)])
		}
		p, _ := entryForm().pixel([]int{int(color[0]), int(color[1]), int(color[2]), alpha})
		out = append(out, p)
	}
	return out
}

// entryForm is the form in which a palette's pixels would stand themselves.
func entryForm() Form {
	return Form{Head: api.Head{Width: 1, Height: 1, Depth: entryDepth, Color: api.ColorA}}
}

// Chunks is the chunks that say it.
func (f Form) Chunks() ([]api.Chunk, error) {
	if err := f.Check(); err != nil {
		return nil, err
	}
	first, err := head.Put(f.Head)
	if err != nil {
		return nil, err
	}
	colors, transparent := f.entries()
	if keyed(f.Head.Color) {
		if transparent, err = sample.Pack(f.Key, keyDepth); err != nil {
			return nil, err
		}
	}
	out := []api.Chunk{{Name: "IHDR", Data: first}}
	if len(colors) > 0 {
		out = append(out, api.Chunk{Name: "PLTE", Data: colors})
	}
	if len(transparent) > 0 {
		out = append(out, api.Chunk{Name: "tRNS", Data: transparent})
	}
	return out, nil
}

// entries is PLTE's data of the palette, and tRNS's.
func (f Form) entries() ([]byte, []byte) {
	var colors, alphas []byte
	told := 0
	for i, p := range f.Palette {
		n, _ := entryForm().numbers(p)
		colors = append(colors, byte(n[0]), byte(n[1]), byte(n[2]))
		alphas = append(alphas, byte(n[3]))
		if p.A != opaque {
			told = i + 1
		}
	}
	return colors, alphas[:told]
}
