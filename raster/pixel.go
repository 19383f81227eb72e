package raster

import (
	"slices"

	"burnish/api"
	"burnish/head"
	"burnish/sample"
)

const mostNumbers = 4 // of a pixel

// Pixel is the pixel of numbers.
func (f Form) Pixel(numbers []int) (api.Pixel, bool) {
	if f.Check() != nil {
		return api.Pixel{}, false
	}
	return f.pixel(numbers)
}

// pixel is Pixel of a form that is known to be good.
func (f Form) pixel(numbers []int) (api.Pixel, bool) {
	if len(numbers) != head.Channels(f.Head.Color) {
		return api.Pixel{}, false
	}
	if f.Head.Color == api.Palette {
		return f.entry(numbers[0])
	}
	w, ok := widened(numbers, f.Head.Depth)
	if !ok {
		return api.Pixel{}, false
	}
	switch f.Head.Color {
	case api.Grey:
		return api.Pixel{R: w[0], G: w[0], B: w[0], A: f.alpha(numbers)}, true
	case api.GreyAlpha:
		return api.Pixel{R: w[0], G: w[0], B: w[0], A: w[1]}, true
	case api.Color:
		return api.Pixel{R: w[0], G: w[1], B: w[2], A: f.alpha(numbers)}, true
	}
	return api.Pixel{R: w[0], G: w[1], B: w[2], A: w[3]}, true
}

// entry is the palette's pixel with an index.
func (f Form) entry(at int) (api.Pixel, bool) {
	if at < 0 || at >= len(f.Palette) {
		return api.Pixel{}, false
	}
	return f.Palette[at], true
}

// widened is a pixel's numbers widened, if they are of that depth.
func widened(numbers []int, depth int) ([mostNumbers]int, bool) {
	var out [mostNumbers]int
	for i, n := range numbers {
		wide, err := sample.Widen(n, depth)
		if err != nil {
			return [mostNumbers]int{}, false
		}
		out[i] = wide
	}
	return out, true
}

// alpha is the alpha of numbers that don't tell it.
func (f Form) alpha(numbers []int) int {
	if slices.Equal(numbers, f.Key) {
		return 0
	}
	return opaque
}

// Numbers is a pixel's numbers.
func (f Form) Numbers(p api.Pixel) ([]int, bool) {
	if f.Check() != nil {
		return nil, false
	}
	return f.numbers(p)
}

// numbers is Numbers of a form that is known to be good.
func (f Form) numbers(p api.Pixel) ([]int, bool) {
	out, ok := f.likely(p)
	if !ok {
		return nil, false
	}
	// What the numbers don't tell by themselves may be otherwise in the pixel: that it isn't grey, or its alpha.
	if back, ok := f.pixel(out); !ok || back != p {
		return nil, false
	}
	return out, true
}

// likely is the only numbers that a pixel may have (of the palette: the first ones).
func (f Form) likely(p api.Pixel) ([]int, bool) {
	switch f.Head.Color {
	case api.Palette:
		return []int{slices.Index(f.Palette, p)}, true
	case api.Grey:
		return narrowed(f.Head.Depth, p.R)
	case api.GreyAlpha:
		return narrowed(f.Head.Depth, p.R, p.A)
	case api.Color:
		return narrowed(f.Head.Depth, p.R, p.G, p.B)
	}
	return narrowed(f.Head.Depth, p.R, p.G, p.B, p.A)
}

// narrowed is numbers of 16 bits narrowed to a depth, if all of them can be.
func narrowed(depth int, wide ...int) ([]int, bool) {
	out := make([]int, 0, len(wide))
	for _, w := range wide {
		n, ok := sample.Narrow(w, depth)
		if !ok {
			return nil, false
		}
		out = append(out, n)
	}
	return out, true
}
