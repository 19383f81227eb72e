package head

import (
	"bytes"
	"slices"
	"strings"
	"testing"

	"burnish/api"
	"burnish/chunk"
)

// others is names that the order of chunks doesn't speak of.
var others = []string{"tEXt", "zTXt", "iTXt", "eXIf", "prVt", "aaAA", "zzzz", "idat", "iHDR", "iEND", "pLTE", "tRNs", "trns", "bKGd", "gAMa", "tIMe", "phys"}

// unknown is critical names that no reader knows.
var unknown = []string{"XYZw", "AAAA", "Zzzz", "IDAt", "IdAT", "IDaT", "IHDr", "PLTe", "IENd", "JDAT", "TRNS", "Bkgd", "PHYs"}

// word is chunks of these letters between the head and the last chunk, with data that fit the head, if any do.
func word(h api.Head, text string) []api.Chunk {
	list := []api.Chunk{{Name: "IHDR", Data: plainPut(h)}}
	for i := range len(text) {
		c := api.Chunk{Name: letters[text[i]]}
		switch text[i] {
		case 'H':
			c.Data = plainPut(h)
		case 'P':
			c.Data = []byte("\x01\x02\x03\xff\xff\xff")
		case 't':
			c.Data = [][]byte{0: {0, 1}, 2: {0, 1, 0, 2, 0, 255}, 3: {0, 128}, 4: nil, 6: {}}[h.Color]
		case 'x':
			c.Name = others[len(text)%len(others)]
		case 'X':
			c.Name = unknown[len(text)%len(unknown)]
		case 'D':
			c.Data = []byte("data")
		}
		list = append(list, c)
	}
	return append(list, api.Chunk{Name: "IEND"})
}

// checkOrder holds Order against what it should be, and answers its error.
func checkOrder(t *testing.T, list []api.Chunk) error {
	t.Helper()
	want, wantErr := plainOrder(list)
	h, err := Order(list)
	if h != want || err != wantErr {
		var names []string
		for _, c := range list {
			names = append(names, c.Name)
		}
		t.Fatalf("%v, %x..: %+v, %v; want %+v, %v", names, list[0].Data, h, err, want, wantErr)
	}
	return err
}

// someHead is a head of each color type, with as few values as are a palette's two.
func someHead(color int) api.Head {
	depth := map[int]int{0: 2, 2: 8, 3: 1, 4: 8, 6: 16}[color]
	return api.Head{Width: 3, Height: 5, Depth: depth, Color: color, Lace: 1}
}

// checkWords holds Order against what it should be for all lists of up to that many of the letters, for each color type, and answers how many there were by the error.
func checkWords(t *testing.T, alphabet string, most int) map[error]int {
	t.Helper()
	counts := map[error]int{}
	for _, color := range colors {
		h := someHead(color)
		texts := []string{""}
		for n := 0; ; n++ {
			var next []string
			for _, text := range texts {
				counts[checkOrder(t, word(h, text))]++
				for i := range len(alphabet) {
					if n < most {
						next = append(next, text+alphabet[i:i+1])
					}
				}
			}
			if n == most {
				break
			}
			texts = next
		}
	}
	return counts
}

// P13.1: Order

func TestWords(t *testing.T) {
	counts := checkWords(t, "HPDtbhcgisrplmxX", 3)
	if len(counts) != 3 || counts[nil] == 0 {
		t.Error(counts)
	}
}

func TestLongerWords(t *testing.T) {
	for _, alphabet := range []string{"PDtbhgxX", "PDhprmlx", "DDPtbX"} {
		if counts := checkWords(t, alphabet, 5); counts[nil] == 0 {
			t.Error(counts)
		}
	}
}

func TestOrderKnown(t *testing.T) {
	for _, x := range []struct {
		color int
		text  string
		want  error
	}{
		{0, "D", nil}, {2, "D", nil}, {3, "PD", nil}, {4, "D", nil}, {6, "D", nil},
		{0, "", api.ErrMalformed}, {3, "P", api.ErrMalformed}, {2, "Pt", api.ErrMalformed}, {6, "xm", api.ErrMalformed},
		// All that may be there.
		{0, "gcsirxllptbxmDDDDxx", nil}, {2, "lgcsirxlpPlbthmxDDxx", nil}, {3, "xrsicgpPlhbtDxm", nil}, {4, "gcsirbplmDD", nil}, {6, "gcsirPbhplDm", nil},
		// One too many.
		{2, "HD", api.ErrMalformed}, {2, "DH", api.ErrMalformed}, {2, "PPD", api.ErrMalformed}, {3, "PPD", api.ErrMalformed}, {0, "ttD", api.ErrMalformed}, {0, "bbD", api.ErrMalformed}, {2, "PhhD", api.ErrMalformed},
		{0, "ccD", api.ErrMalformed}, {0, "gxgD", api.ErrMalformed}, {0, "iiD", api.ErrMalformed}, {0, "ssD", api.ErrMalformed}, {0, "rrD", api.ErrMalformed}, {0, "ppD", api.ErrMalformed}, {0, "mDm", api.ErrMalformed}, {0, "mmD", api.ErrMalformed}, {0, "Dmm", api.ErrMalformed}, {0, "llllD", nil},
		// The palette.
		{0, "PD", api.ErrMalformed}, {4, "PD", api.ErrMalformed}, {2, "PD", nil}, {6, "PD", nil}, {3, "D", api.ErrMalformed}, {2, "DP", api.ErrMalformed}, {3, "DP", api.ErrMalformed}, {6, "DxP", api.ErrMalformed},
		// What transparency there is.
		{0, "tD", nil}, {2, "tD", nil}, {2, "PtD", nil}, {2, "tPD", api.ErrMalformed}, {3, "PtD", nil}, {3, "tPD", api.ErrMalformed}, {3, "tD", api.ErrMalformed}, {4, "tD", api.ErrMalformed}, {6, "tD", api.ErrMalformed}, {6, "PtD", api.ErrMalformed}, {0, "Dt", api.ErrMalformed}, {3, "PDt", api.ErrMalformed},
		// bKGD and hIST.
		{0, "bD", nil}, {2, "bD", nil}, {2, "PbD", nil}, {2, "bPD", api.ErrMalformed}, {3, "bPD", api.ErrMalformed}, {0, "Db", api.ErrMalformed}, {3, "PbtD", nil}, {3, "PtbD", nil},
		{2, "PhD", nil}, {6, "PhD", nil}, {2, "hD", api.ErrMalformed}, {2, "hPD", api.ErrMalformed}, {0, "hD", api.ErrMalformed}, {3, "PDh", api.ErrMalformed},
		// Before the palette and the data.
		{3, "PgD", api.ErrMalformed}, {3, "gPD", nil}, {0, "Dg", api.ErrMalformed}, {2, "PcD", api.ErrMalformed}, {2, "PiD", api.ErrMalformed}, {2, "PsD", api.ErrMalformed}, {2, "PrD", api.ErrMalformed}, {2, "Dc", api.ErrMalformed}, {2, "Di", api.ErrMalformed}, {2, "Ds", api.ErrMalformed}, {2, "Dr", api.ErrMalformed}, {2, "tgD", nil}, {2, "bgPD", api.ErrMalformed},
		// Before the data.
		{2, "PpD", nil}, {2, "pPD", nil}, {2, "Dp", api.ErrMalformed}, {2, "lPlD", nil}, {2, "Dl", api.ErrMalformed},
		// The data one behind the other.
		{0, "DDD", nil}, {0, "DxD", api.ErrMalformed}, {0, "DmD", api.ErrMalformed}, {0, "DDxDD", api.ErrMalformed}, {0, "xDDx", nil},
		// Critical ones.
		{0, "XD", api.ErrUnsupported}, {0, "DX", api.ErrUnsupported}, {0, "X", api.ErrUnsupported}, {3, "X", api.ErrUnsupported}, {0, "DXD", api.ErrUnsupported}, {0, "xDX", api.ErrUnsupported},
		// The first fault goes before the others.
		{0, "XH", api.ErrUnsupported}, {0, "HX", api.ErrMalformed}, {0, "PX", api.ErrMalformed}, {0, "XP", api.ErrUnsupported}, {0, "ggX", api.ErrMalformed}, {0, "gXg", api.ErrUnsupported}, {4, "tX", api.ErrMalformed}, {4, "Xt", api.ErrUnsupported}, {3, "tX", api.ErrMalformed}, {2, "hX", api.ErrMalformed}, {3, "DXP", api.ErrUnsupported}, {3, "DPX", api.ErrMalformed},
		// Each chunk is held against those before it.
		{2, "tXP", api.ErrUnsupported}, {2, "bXPD", api.ErrUnsupported}, {3, "bXD", api.ErrUnsupported},
	} {
		list := word(someHead(x.color), x.text)
		h, err := Order(list)
		if err != x.want || err == nil && h != someHead(x.color) || err != nil && h != (api.Head{}) {
			t.Errorf("%d %s: %+v, %v; want %v", x.color, x.text, h, err, x.want)
		}
		checkOrder(t, list)
	}
}

func TestOtherNames(t *testing.T) {
	for _, color := range colors {
		for at := range 4 {
			for _, name := range others {
				list := word(someHead(color), map[bool]string{true: "gPDD", false: "gDDm"}[color == 3])
				list = slices.Insert(list, at+1, api.Chunk{Name: name, Data: []byte("any")}, api.Chunk{Name: name})
				err := checkOrder(t, list)
				// Only between the data it is in the way.
				if first := list[at].Name == "IDAT" && list[at+3].Name == "IDAT"; (err == nil) == first {
					t.Error(color, at, name, err)
				}
			}
			for _, name := range unknown {
				list := word(someHead(color), map[bool]string{true: "gPDD", false: "gDDm"}[color == 3])
				list = slices.Insert(list, at+1, api.Chunk{Name: name, Data: []byte("any")})
				if err := checkOrder(t, list); err != api.ErrUnsupported {
					t.Error(color, at, name, err)
				}
			}
		}
	}
}

func TestPalettes(t *testing.T) {
	for _, h := range heads() {
		for size := range 800 {
			list := word(h, "PD")
			list[1].Data = bytes.Repeat([]byte{0xff}, size)
			most := 256
			if h.Color == 3 {
				most = 1 << h.Depth
			}
			good := h.Color != 0 && h.Color != 4 && size%3 == 0 && size >= 3 && size <= 3*most
			if err := checkOrder(t, list); (err == nil) != good {
				t.Fatal(h, size, err)
			}
			list[1].Name = "pLTE"
			checkOrder(t, list)
		}
	}
}

func TestTransparency(t *testing.T) {
	for _, h := range heads() {
		for size := range 300 {
			for _, text := range []string{"tD", "PtD", "tPD"} {
				for _, fill := range []byte{0, 255} {
					list := word(h, text)
					list[strings.Index(text, "t")+1].Data = bytes.Repeat([]byte{fill}, size)
					checkOrder(t, list)
				}
			}
		}
	}
}

func TestTransparentEntries(t *testing.T) {
	for _, h := range heads() {
		for entries := 1; h.Color == 3 && entries <= 1<<h.Depth; entries++ {
			for size := range entries + 3 {
				list := word(h, "PtD")
				list[1].Data, list[2].Data = make([]byte, 3*entries), bytes.Repeat([]byte{255}, size)
				if err := checkOrder(t, list); (err == nil) != (size >= 1 && size <= entries) {
					t.Fatal(h, entries, size, err)
				}
			}
		}
	}
}

func TestKeys(t *testing.T) {
	for _, h := range heads() {
		count := map[int]int{0: 1, 2: 3}[h.Color]
		for at := range count {
			for n := range 1 << 16 {
				if n%251 > 3 && n&(n-1) != 0 && n&(n+1) != 0 && n > 300 {
					continue
				}
				list := word(h, "tD")
				list[1].Data = make([]byte, 2*count)
				list[1].Data[2*at], list[1].Data[2*at+1] = byte(n>>8), byte(n)
				if err := checkOrder(t, list); (err == nil) != (n < 1<<h.Depth) {
					t.Fatal(h, at, n, err)
				}
			}
		}
	}
}

func TestFirst(t *testing.T) {
	good := word(someHead(0), "D")
	for _, list := range [][]api.Chunk{
		{{Name: "IEND"}}, {{Name: "IDAT"}, {Name: "IEND"}}, good[1:], {good[1], good[0], good[2]}, slices.Concat([]api.Chunk{{Name: "tEXt"}}, good), slices.Concat([]api.Chunk{{Name: "XYZw"}}, good),
		{{Name: "iHDR", Data: good[0].Data}, good[1], good[2]}, {{Name: "IHDr", Data: good[0].Data}, good[1], good[2]},
	} {
		if err := checkOrder(t, list); err != api.ErrMalformed {
			t.Error(list, err)
		}
	}
}

func TestFirstData(t *testing.T) {
	seed := uint64(3)
	for i := range 20000 {
		list := word(heads()[i%15], []string{"D", "PD", "X", "DxD"}[pick(&seed, 4)])
		b := list[0].Data
		switch pick(&seed, 4) {
		case 0:
			list[0].Data = someData(&seed, pick(&seed, 20))
		case 1:
			b[pick(&seed, 13)] = byte(pick(&seed, 256))
		case 2:
			b[pick(&seed, 13)] ^= 1 << pick(&seed, 8)
			b[pick(&seed, 13)] ^= 1 << pick(&seed, 8)
		}
		checkOrder(t, list)
	}
	for _, x := range []struct {
		data string
		want error
	}{
		{"", api.ErrMalformed}, {"\x00\x00\x00\x01\x00\x00\x00\x01\x08\x00\x00\x00", api.ErrMalformed}, {"\x00\x00\x00\x01\x00\x00\x00\x01\x08\x00\x00\x00\x00\x00", api.ErrMalformed}, {"\x00\x01\x00\x00\x00\x00\x00\x01\x08\x00\x00\x00\x00", api.ErrTooLarge}, {"\x00\x01\x00\x00\x00\x00\x00\x01\x08\x01\x00\x00\x00", api.ErrMalformed}, {"\x00\x00\x02\x00\x00\x00\x02\x01\x08\x00\x00\x00\x00", api.ErrTooLarge},
	} {
		// What the first chunk's data are goes before what is behind it.
		for _, text := range []string{"D", "", "X", "HD", "DxD"} {
			list := word(someHead(0), text)
			list[0].Data = []byte(x.data)
			if err := checkOrder(t, list); err != x.want {
				t.Errorf("%x %s: %v", x.data, text, err)
			}
		}
	}
}

func TestNoChunksOfBytes(t *testing.T) {
	lists := [][]api.Chunk{nil, {}}
	for _, text := range []string{"D", "", "X", "HD", "gDxDg"} {
		good := word(someHead(0), text)
		n := len(good)
		end := good[n-1]
		full := slices.Clone(good)
		full[n-1].Data = []byte{0}
		lists = append(lists, good[:n-1], full, append(slices.Clone(good), end), append(slices.Clone(good), good[0]), slices.Insert(slices.Clone(good), 0, end), slices.Insert(slices.Clone(good), 1, end))
		for at := range n {
			for _, name := range []string{"", "IDA", "IDATA", "ID T", "ID4T", "IDA\x00", "éab", "abcé", "IEND "} {
				list := slices.Clone(good)
				list[at].Name = name
				lists = append(lists, list)
			}
		}
	}
	// That no bytes hold them goes before that the first one isn't what it has to be.
	lists = append(lists, []api.Chunk{{Name: "IDAT"}}, []api.Chunk{{Name: "IHDR"}}, []api.Chunk{{Name: "XYZw"}}, []api.Chunk{{Name: "tEXt"}, {Name: "none"}})
	for i, list := range lists {
		if h, err := Order(list); h != (api.Head{}) || err != api.ErrForm {
			t.Error(i, h, err)
		}
	}
}

func TestMostBytes(t *testing.T) {
	room := 1<<20 - 8 - 25 - 12 - 12
	list := word(someHead(0), "D")
	for _, x := range []struct {
		size int
		want error
	}{{room - 1, nil}, {room, nil}, {room + 1, api.ErrForm}, {1 << 20, api.ErrForm}, {1 << 22, api.ErrForm}} {
		list[1].Data = make([]byte, x.size)
		if _, err := Order(list); err != x.want {
			t.Error(x.size, err)
		}
	}
	// More than there can be is told before all else.
	list[0].Data = nil
	if _, err := Order(list); err != api.ErrForm {
		t.Error(err)
	}
	for _, x := range []struct {
		count int
		want  error
	}{{(1<<20 - 45) / 12, nil}, {(1<<20-45)/12 + 1, api.ErrForm}} {
		list = word(someHead(0), strings.Repeat("D", x.count))
		for i := range x.count {
			list[i+1].Data = nil
		}
		if _, err := Order(list); err != x.want {
			t.Error(x.count, err)
		}
	}
	// Chunks that share their data come to more than any bytes.
	shared := make([]byte, 1<<20)
	list = slices.Repeat([]api.Chunk{{Name: "IDAT", Data: shared}}, 1<<16)
	list = slices.Concat(word(someHead(0), "")[:1], list, []api.Chunk{{Name: "IEND"}})
	if _, err := Order(list); err != api.ErrForm {
		t.Error(err)
	}
}

// someList is chunks, most of them in order.
func someList(seed *uint64) []api.Chunk {
	h := heads()[pick(seed, 15)]
	var text []byte
	for _, part := range []string{"gcsirxplm", "P", "tbhplxm", "D", "DD", "mxx"} {
		for range pick(seed, 3) {
			text = append(text, part[pick(seed, len(part))])
		}
	}
	for range pick(seed, 4) / 2 {
		text = slices.Insert(text, pick(seed, len(text)+1), "HPDtbhcgisrplmxX"[pick(seed, 16)])
	}
	list := word(h, string(text))
	for i := 1; i < len(list)-1; i++ {
		switch {
		case list[i].Name == "PLTE" && pick(seed, 2) == 0:
			list[i].Data = someData(seed, 3*pick(seed, 20)+pick(seed, 8)/7)
		case list[i].Name == "tRNS" && pick(seed, 2) == 0:
			list[i].Data = someData(seed, pick(seed, 8))
		case list[i].Name == "tRNS" && h.Color != 3 && len(list[i].Data) > 0:
			at := pick(seed, len(list[i].Data)/2)
			list[i].Data[2*at+1] = byte(pick(seed, 1<<min(h.Depth+1, 8)))
		case list[i].Name != "PLTE" && list[i].Name != "tRNS":
			list[i].Data = someData(seed, pick(seed, 9))
		}
	}
	return list
}

func TestAnyOrder(t *testing.T) {
	counts := map[error]int{}
	seed := uint64(4)
	for range 200000 {
		list := someList(&seed)
		counts[checkOrder(t, list)]++
	}
	if len(counts) != 3 || counts[nil] < 5000 || counts[api.ErrUnsupported] < 1000 {
		t.Error(counts)
	}
}

func TestOrderOfRead(t *testing.T) {
	seed := uint64(5)
	for range 3000 {
		list := someList(&seed)
		b, err := chunk.Write(list)
		if err != nil {
			t.Fatal(err)
		}
		read, err := chunk.Parse(b)
		if err != nil {
			t.Fatal(err)
		}
		one, errOne := Order(list)
		two, errTwo := Order(read)
		if one != two || errOne != errTwo {
			t.Fatal(one, errOne, two, errTwo)
		}
	}
}

// P13.3

// deep is a copy of chunks, with the room behind them and their data.
func deep(list []api.Chunk) []api.Chunk {
	out := slices.Clone(list[:cap(list)])
	for i := range out {
		out[i].Data = slices.Clone(out[i].Data[:cap(out[i].Data)])
	}
	return out
}

func TestListStays(t *testing.T) {
	seed := uint64(6)
	for range 3000 {
		list := append(someList(&seed), api.Chunk{Name: "more", Data: []byte("behind")})
		for i := range list {
			list[i].Data = append(list[i].Data, 1, 2, 3, 4, 5)[:len(list[i].Data)]
		}
		list = list[:len(list)-1]
		held := deep(list)
		h, err := Order(list)
		k, errTwo := Order(list)
		same := slices.EqualFunc(deep(list), held, func(a, b api.Chunk) bool { return a.Name == b.Name && bytes.Equal(a.Data, b.Data) })
		if !same || h != k || err != errTwo {
			t.Fatal(h, err, k, errTwo)
		}
	}
}
