package head

import (
	"encoding/binary"
	"math/big"
	"strconv"
	"strings"

	"burnish/api"
)

// Here is what the tests hold the package against: the document's words for a head, and for the order of chunks with a letter for each chunk.

// pick is a number from 0 to n-1, the same each time for a seed.
func pick(seed *uint64, n int) int {
	*seed = *seed*6364136223846793005 + 1442695040888963407
	return int((*seed >> 33) % uint64(n))
}

// someData is that many bytes.
func someData(seed *uint64, size int) []byte {
	b := make([]byte, size)
	for i := range b {
		b[i] = byte(pick(seed, 256))
	}
	return b
}

// colors is the color types that there are.
var colors = []int{0, 2, 3, 4, 6}

// sorts is the color types with their depths.
const sorts = " 0/1 0/2 0/4 0/8 0/16 2/8 2/16 3/1 3/2 3/4 3/8 4/8 4/16 6/8 6/16 "

// heads is a head of one pixel of each sort.
func heads() []api.Head {
	var out []api.Head
	for _, s := range strings.Fields(sorts) {
		color, depth, _ := strings.Cut(s, "/")
		c, _ := strconv.Atoi(color)
		d, _ := strconv.Atoi(depth)
		out = append(out, api.Head{Width: 1, Height: 1, Depth: d, Color: c})
	}
	return out
}

func plainCheck(h api.Head) error {
	sort := " " + strconv.Itoa(h.Color) + "/" + strconv.Itoa(h.Depth) + " "
	if h.Width <= 0 || h.Height <= 0 || !strings.Contains(sorts, sort) || h.Lace < 0 || h.Lace > 1 {
		return api.ErrMalformed
	}
	pixels := new(big.Int).Mul(big.NewInt(int64(h.Width)), big.NewInt(int64(h.Height)))
	if h.Width >= 65536 || h.Height >= 65536 || pixels.Cmp(big.NewInt(262144)) > 0 {
		return api.ErrTooLarge
	}
	return nil
}

func plainTake(data []byte) (api.Head, error) {
	if len(data) != 13 || data[10]|data[11] != 0 {
		return api.Head{}, api.ErrMalformed
	}
	h := api.Head{
		Width: int(binary.BigEndian.Uint32(data)), Height: int(binary.BigEndian.Uint32(data[4:])),
		Depth: int(data[8]), Color: int(data[9]), Lace: int(data[12]),
	}
	if err := plainCheck(h); err != nil {
		return api.Head{}, err
	}
	return h, nil
}

// plainPut is the data of a good head.
func plainPut(h api.Head) []byte {
	b := binary.BigEndian.AppendUint32(nil, uint32(h.Width))
	b = binary.BigEndian.AppendUint32(b, uint32(h.Height))
	return append(b, byte(h.Depth), byte(h.Color), 0, 0, byte(h.Lace))
}

// letters is the names that the order of chunks speaks of, by their letters; X is any other critical name, and x any other name.
var letters = map[byte]string{
	'H': "IHDR", 'P': "PLTE", 'D': "IDAT", 't': "tRNS", 'b': "bKGD", 'h': "hIST",
	'c': "cHRM", 'g': "gAMA", 'i': "iCCP", 's': "sBIT", 'r': "sRGB", 'p': "pHYs", 'l': "sPLT", 'm': "tIME",
}

// letter is a name's letter.
func letter(name string) byte {
	for l, n := range letters {
		if n == name {
			return l
		}
	}
	if name == "IEND" {
		return 'E'
	}
	if strings.ToLower(name[:1]) == name[:1] {
		return 'x'
	}
	return 'X'
}

// never is the pairs of chunks of which the second one may stand nowhere behind the first one.
var never = strings.Fields("HH PP DP tt Dt tP bb Db bP hh Dh hP cc Pc Dc gg Pg Dg ii Pi Di ss Ps Ds rr Pr Dr pp Dp Dl mm")

// wrong tells whether chunks, by their letters, are out of order, whatever may follow.
func wrong(text string) bool {
	for _, pair := range never {
		if _, behind, ok := strings.Cut(text, pair[:1]); ok && strings.Contains(behind, pair[1:]) {
			return true
		}
	}
	if first := strings.Index(text, "D"); first >= 0 {
		if data := text[first : strings.LastIndex(text, "D")+1]; strings.Trim(data, "D") != "" {
			return true
		}
	}
	ahead, _, ok := strings.Cut(text, "h")
	return ok && !strings.Contains(ahead, "P")
}

// wrongPalette tells whether a palette isn't one for a head.
func wrongPalette(h api.Head, data []byte) bool {
	for n := 1; n <= 256; n++ {
		if len(data) == 3*n {
			return h.Color == 0 || h.Color == 4 || h.Color == 3 && n > 1<<h.Depth
		}
	}
	return true
}

// wrongAlpha tells whether a tRNS isn't one for a head and a palette.
func wrongAlpha(h api.Head, palette, data []byte) bool {
	switch {
	case h.Color == 3:
		return len(data) == 0 || 3*len(data) > len(palette)
	case h.Color == 0 && len(data) == 2, h.Color == 2 && len(data) == 6:
		for i := 0; i < len(data); i += 2 {
			if int(binary.BigEndian.Uint16(data[i:]))>>h.Depth != 0 {
				return true
			}
		}
		return false
	}
	return true
}

// plainOrder is the head of chunks that can be read, or the first error.
func plainOrder(list []api.Chunk) (api.Head, error) {
	if list[0].Name != "IHDR" {
		return api.Head{}, api.ErrMalformed
	}
	h, err := plainTake(list[0].Data)
	if err != nil {
		return api.Head{}, err
	}
	text := "H"
	var palette []byte
	for _, c := range list[1:] {
		text += string(letter(c.Name))
		switch {
		case strings.HasSuffix(text, "X"):
			return api.Head{}, api.ErrUnsupported
		case wrong(text), c.Name == "PLTE" && wrongPalette(h, c.Data), c.Name == "tRNS" && wrongAlpha(h, palette, c.Data):
			return api.Head{}, api.ErrMalformed
		case c.Name == "PLTE":
			palette = c.Data
		}
	}
	if !strings.Contains(text, "D") || h.Color == 3 && !strings.Contains(text, "P") {
		return api.Head{}, api.ErrMalformed
	}
	return h, nil
}
