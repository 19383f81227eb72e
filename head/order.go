package head

import (
	"burnish/api"
	"burnish/chunk"
	"burnish/sums"
)

const (
	entrySize  = 3   // bytes of a palette's entry
	mostColors = 256 // entries of a palette
	keySize    = 2   // bytes of each number of a transparent color
)

// Order tells whether chunks are in order, and their head.
func Order(list []api.Chunk) (api.Head, error) {
	// Bytes that hold these chunks and nothing else are there just if they can be written.
	if _, err := chunk.Write(list); err != nil {
		return api.Head{}, api.ErrForm
	}
	if list[0].Name != "IHDR" {
		return api.Head{}, api.ErrMalformed
	}
	h, err := Take(list[0].Data)
	if err != nil {
		return api.Head{}, err
	}
	s := &sequence{head: h, counts: map[string]int{}}
	for _, c := range list[1:] {
		if err := s.add(c); err != nil {
			return api.Head{}, err
		}
	}
	if !s.complete() {
		return api.Head{}, api.ErrMalformed
	}
	return h, nil
}

// sequence is the chunks behind the head, as far as they were looked at.
type sequence struct {
	head    api.Head
	counts  map[string]int // by the name
	before  string         // the name of the latest chunk
	entries int            // of the palette
}

// add looks at one more chunk.
func (s *sequence) add(c api.Chunk) error {
	if chunk.Critical(c.Name) && !known(c.Name) {
		return api.ErrUnsupported
	}
	if !s.fits(c.Name) || !s.holds(c) {
		return api.ErrMalformed
	}
	if c.Name == "PLTE" {
		s.entries = len(c.Data) / entrySize
	}
	s.counts[c.Name]++
	s.before = c.Name
	return nil
}

// known tells whether a critical chunk is one of those that every reader knows.
func known(name string) bool {
	switch name {
	case "IHDR", "PLTE", "IDAT", "IEND":
		return true
	}
	return false
}

// fits tells whether a chunk of that name may follow those that are there.
func (s *sequence) fits(name string) bool {
	switch name {
	case "IHDR":
		return false
	case "PLTE":
		// A hIST has a palette ahead of it, so that another one is one too many.
		return s.none("PLTE", "tRNS", "bKGD", "IDAT")
	case "IDAT":
		return s.none("IDAT") || s.before == "IDAT"
	case "cHRM", "gAMA", "iCCP", "sBIT", "sRGB":
		return s.none(name, "PLTE", "IDAT")
	case "hIST":
		return !s.none("PLTE") && s.none("hIST", "IDAT")
	case "tRNS", "bKGD", "pHYs":
		return s.none(name, "IDAT")
	case "sPLT":
		return s.none("IDAT")
	case "tIME":
		return s.none("tIME")
	}
	return true
}

// none tells whether no chunk of these names is there.
func (s *sequence) none(names ...string) bool {
	for _, name := range names {
		if s.counts[name] > 0 {
			return false
		}
	}
	return true
}

// holds tells whether a chunk's data is what a palette's or a tRNS's has to be; other chunks may hold anything.
func (s *sequence) holds(c api.Chunk) bool {
	switch c.Name {
	case "PLTE":
		return s.holdsPalette(c.Data)
	case "tRNS":
		return s.holdsAlpha(c.Data)
	}
	return true
}

func (s *sequence) holdsPalette(data []byte) bool {
	most := mostColors
	switch s.head.Color {
	case api.Grey, api.GreyAlpha:
		return false
	case api.Palette:
		most = 1 << s.head.Depth
	}
	return len(data) > 0 && len(data)%entrySize == 0 && len(data)/entrySize <= most
}

func (s *sequence) holdsAlpha(data []byte) bool {
	switch s.head.Color {
	case api.Grey, api.Color:
		return holdsKey(data, Channels(s.head.Color), s.head.Depth)
	case api.Palette:
		return len(data) > 0 && len(data) <= s.entries
	}
	return false
}

// holdsKey tells whether bytes are that many numbers of a depth.
func holdsKey(data []byte, count, depth int) bool {
	if len(data) != count*keySize {
		return false
	}
	for at := range count {
		n, _, err := sums.Take(data[at*keySize:], keySize)
		if err != nil || n >= 1<<depth {
			return false
		}
	}
	return true
}

// complete tells whether no chunk is missing.
func (s *sequence) complete() bool {
	return !s.none("IDAT") && (s.head.Color != api.Palette || !s.none("PLTE"))
}
