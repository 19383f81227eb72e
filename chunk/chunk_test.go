package chunk

import (
	"bytes"
	"encoding/hex"
	"image"
	"image/color"
	"image/png"
	"slices"
	"strings"
	"testing"

	"burnish/api"
)

// same tells whether chunks are the same; a nil slice is an empty one.
func same(a, b []api.Chunk) bool {
	return slices.EqualFunc(a, b, func(c, d api.Chunk) bool { return c.Name == d.Name && bytes.Equal(c.Data, d.Data) })
}

// checkParse holds what is read from bytes against what it should be.
func checkParse(t *testing.T, s string, want []api.Chunk, wantErr error) {
	t.Helper()
	list, err := Parse([]byte(s))
	if err != wantErr || !same(list, want) || err != nil && len(list) > 0 {
		t.Fatalf("%d bytes, %.60x..: %d chunks, %v; want %d, %v", len(s), s, len(list), err, len(want), wantErr)
	}
}

// checkPlainParse holds it against the plain reader.
func checkPlainParse(t *testing.T, s string) {
	t.Helper()
	want, err := plainParse(s)
	checkParse(t, s, want, err)
}

// checkWrite holds what is written against the plain writer.
func checkWrite(t *testing.T, list []api.Chunk) {
	t.Helper()
	want, wantErr := plainWrite(list)
	b, err := Write(list)
	if err != wantErr || string(b) != want {
		t.Fatalf("%d chunks: %d bytes, %.60x.., %v; want %d, %.60x.., %v", len(list), len(b), b, err, len(want), want, wantErr)
	}
}

// P12.1: Parse

func TestParseKnown(t *testing.T) {
	for _, x := range []struct {
		in   string
		want []api.Chunk
	}{
		{"89504e470d0a1a0a0000000049454e44ae426082", []api.Chunk{{Name: "IEND"}}},
		{"89504e470d0a1a0a0000000467414d410000b18f0bfc61050000000049454e44ae426082", []api.Chunk{{Name: "gAMA", Data: []byte{0, 0, 0xb1, 0x8f}}, {Name: "IEND"}}},
	} {
		b, err := hex.DecodeString(x.in)
		if err != nil {
			t.Fatal(err)
		}
		checkParse(t, string(b), x.want, nil)
		out, err := Write(x.want)
		if err != nil || !bytes.Equal(out, b) {
			t.Errorf("%x, %v", out, err)
		}
	}
}

// somePicture is a PNG that the library wrote.
func somePicture(t *testing.T) []byte {
	t.Helper()
	p := image.NewPaletted(image.Rect(0, 0, 61, 40), color.Palette{color.RGBA{1, 2, 3, 255}, color.RGBA{200, 100, 50, 255}, color.NRGBA{9, 9, 9, 128}})
	for i := range p.Pix {
		p.Pix[i] = byte(i * i / 7 % 3)
	}
	var out bytes.Buffer
	if err := png.Encode(&out, p); err != nil {
		t.Fatal(err)
	}
	return out.Bytes()
}

func TestParseOther(t *testing.T) {
	b := somePicture(t)
	list, err := Parse(b)
	if err != nil {
		t.Fatal(err)
	}
	var names []string
	for _, c := range list {
		names = append(names, c.Name)
	}
	if got := strings.Join(names, " "); got != "IHDR PLTE tRNS IDAT IEND" {
		t.Error(got)
	}
	checkPlainParse(t, string(b))
	more := slices.Insert(list, 4, api.Chunk{Name: "tEXt", Data: []byte("Comment\x00one more")})
	out, err := Write(more)
	if err != nil {
		t.Fatal(err)
	}
	if _, err := png.Decode(bytes.NewReader(out)); err != nil {
		t.Error(err)
	}
}

func TestCut(t *testing.T) {
	whole := mark + plain("IHDR", "thirteen byte") + plain("prVt", "") + plain("IEND", "")
	for n := range len(whole) {
		want := api.ErrEnd
		if n < len(mark) {
			want = api.ErrMalformed
		}
		checkParse(t, whole[:n], nil, want)
	}
	checkParse(t, whole, []api.Chunk{{Name: "IHDR", Data: []byte("thirteen byte")}, {Name: "prVt"}, {Name: "IEND"}}, nil)
}

func TestOtherSignatures(t *testing.T) {
	for _, s := range []string{"", "\x89", "PNG", "\xff\xd8\xff\xe0", "\x8aMNG\r\n\x1a\n", "\x89png\r\n\x1a\n", "\x89PNG\n\x1a\n", "\x89PNG\r\n\x1a\r", "\x00" + mark, strings.Repeat("\x00", 8)} {
		for _, more := range []string{"", iend, iend[:5], "\xff\xff\xff\xff", iend + "\x00"} {
			checkParse(t, s+more, nil, api.ErrMalformed)
		}
	}
	checkParse(t, mark+mark+iend, nil, api.ErrMalformed)
}

func TestLengths(t *testing.T) {
	for _, x := range []struct {
		length uint32
		want   error
	}{
		{1, api.ErrEnd}, {2, api.ErrEnd}, {1 << 20, api.ErrEnd}, {1<<31 - 2, api.ErrEnd}, {1<<31 - 1, api.ErrEnd},
		{1 << 31, api.ErrMalformed}, {1<<31 + 1, api.ErrMalformed}, {1<<31 | 4, api.ErrMalformed}, {3 << 30, api.ErrMalformed}, {1<<32 - 1, api.ErrMalformed},
	} {
		for _, before := range []string{"", plain("tEXt", "abc")} {
			head := mark + before + four(x.length)
			// A length is known to be wrong as soon as it is read.
			for _, more := range []string{"", "t", "IDA", "IDAT", "IEND", "tEXt\x00", "IDAT\x35\xaf\x06\x1e"} {
				checkParse(t, head+more, nil, x.want)
			}
			checkParse(t, head+"I1AT", nil, api.ErrMalformed)
			for n := range 4 {
				checkParse(t, head[:len(head)-4+n], nil, api.ErrEnd)
			}
		}
	}
}

func TestLengthIsOfData(t *testing.T) {
	// The length's last byte decides what is data and what is CRC.
	body := "tEXtabcdefgh"
	for n := range 256 {
		checkPlainParse(t, mark+four(uint32(n))+body+plain("tEXt", "abcdefgh")[16:]+iend)
	}
}

func TestNamesOfBytes(t *testing.T) {
	for at := range 4 {
		for x := range 256 {
			b := []byte("tEXt")
			b[at] = byte(x)
			name := string(b)
			if strings.IndexByte(abc, byte(x)) >= 0 {
				checkParse(t, mark+plain(name, "abc")+iend, []api.Chunk{{Name: name, Data: []byte("abc")}, {Name: "IEND"}}, nil)
				continue
			}
			checkParse(t, mark+plain(name, "abc")+iend, nil, api.ErrMalformed)
			// The name is looked at before the data and what is behind them.
			checkParse(t, mark+four(3)+name, nil, api.ErrMalformed)
			checkParse(t, mark+four(3)+name+"ab", nil, api.ErrMalformed)
			checkParse(t, mark+four(1<<31-1)+name+"abc", nil, api.ErrMalformed)
			// A name that isn't whole is none yet.
			checkParse(t, mark+four(3)+name[:at+1][:min(at+1, 3)], nil, api.ErrEnd)
		}
	}
}

func TestWrongSums(t *testing.T) {
	good := plain("tEXt", "abc")
	for _, sum := range []string{"\x00\x00\x00\x00", "\xff\xff\xff\xff", plain("", "abc")[7:], plain("tEXT", "abc")[11:], plain("tEXt", "abd")[11:], string([]byte{good[14], good[13], good[12], good[11]})} {
		bad := mark + good[:11] + sum
		checkParse(t, bad, nil, api.ErrMalformed)
		checkParse(t, bad+iend, nil, api.ErrMalformed)
		for n := 1; n <= 4; n++ {
			checkParse(t, bad[:len(bad)-n], nil, api.ErrEnd)
		}
	}
}

func TestLastOne(t *testing.T) {
	for _, data := range []string{"\x00", "abc", strings.Repeat("x", 1000)} {
		c := plain("IEND", data)
		checkParse(t, mark+c, nil, api.ErrMalformed)
		checkParse(t, mark+c+iend, nil, api.ErrMalformed)
		checkParse(t, mark+plain("tEXt", "a")+c, nil, api.ErrMalformed)
		for n := range len(c) {
			checkParse(t, mark+c[:n], nil, api.ErrEnd)
		}
	}
	for _, more := range []string{"\x00", "a", "\r\n", iend, iend[:6], plain("tEXt", "a"), mark, "\xff\xff\xff\xff", strings.Repeat("\x00", 1000)} {
		checkParse(t, mark+iend+more, nil, api.ErrMalformed)
		checkParse(t, mark+plain("IDAT", "a")+iend+more, nil, api.ErrMalformed)
	}
	for _, name := range []string{"iEND", "IeND", "IEnD", "IENd", "IENE"} {
		checkParse(t, mark+plain(name, ""), nil, api.ErrEnd)
		checkParse(t, mark+plain(name, "x")+iend, []api.Chunk{{Name: name, Data: []byte("x")}, {Name: "IEND"}}, nil)
	}
}

func TestMostInput(t *testing.T) {
	room := 1<<20 - len(mark) - 12 - len(iend)
	for _, n := range []int{room - 1, room} {
		data := strings.Repeat("x", n)
		checkParse(t, mark+plain("IDAT", data)+iend, []api.Chunk{{Name: "IDAT", Data: []byte(data)}, {Name: "IEND"}}, nil)
	}
	checkParse(t, mark+plain("IDAT", strings.Repeat("x", room+1))+iend, nil, api.ErrTooLarge)
	// That there are too many goes before all else.
	checkParse(t, strings.Repeat("\x00", 1<<20), nil, api.ErrMalformed)
	for _, s := range []string{"", mark, mark + iend, mark + "\xff\xff\xff\xff", mark + four(1<<31-1) + "IDAT"} {
		checkParse(t, s+strings.Repeat("\x00", 1<<20+1-len(s)), nil, api.ErrTooLarge)
		checkPlainParse(t, s+strings.Repeat("\x00", 1<<20-len(s)))
	}
	checkParse(t, mark+four(1<<31-1)+"IDAT"+strings.Repeat("\x00", 1<<20-16), nil, api.ErrEnd)
	checkParse(t, mark+four(1<<20-20)+"IDAT"+strings.Repeat("\x00", 1<<20-16), nil, api.ErrMalformed)
	checkParse(t, mark+four(1<<20-19)+"IDAT"+strings.Repeat("\x00", 1<<20-16), nil, api.ErrEnd)
}

func TestMany(t *testing.T) {
	n := (1<<20 - len(mark) - len(iend)) / 12
	one := plain("IDAT", "")
	list, err := Parse([]byte(mark + strings.Repeat(one, n) + iend))
	if err != nil || len(list) != n+1 || list[0].Name != "IDAT" || list[n-1].Name != "IDAT" || list[n].Name != "IEND" {
		t.Fatal(len(list), err)
	}
	checkParse(t, mark+strings.Repeat(one, n), nil, api.ErrEnd)
}

// changed is bytes with something changed, taken out, put in, or cut off.
func changed(seed *uint64, s string) string {
	at := pick(seed, len(s)+1)
	to := at + pick(seed, min(20, len(s)-at)+1)
	switch pick(seed, 7) {
	case 0:
		return s[:at]
	case 1:
		return s[:at] + s[to:]
	case 2:
		return s[:at] + s[at:to] + s[at:]
	case 3:
		return s[:at] + string(someData(seed, 5)) + s[to:]
	case 4:
		return s[:at] + plain(someName(seed), string(someData(seed, 5))) + s[at:]
	case 5:
		return s[:at] + iend + s[at:]
	default:
		return s[:at] + "\x80" + s[min(at+1, len(s)):]
	}
}

func TestAnything(t *testing.T) {
	seed := uint64(1)
	for range 30000 {
		s := mark
		for range pick(&seed, 4) {
			name := someName(&seed)
			if pick(&seed, 20) == 0 {
				name = name[:3] + string(rune(pick(&seed, 128)))
			}
			s += plain(name, string(someData(&seed, 9)))
		}
		s += plain("IEND", strings.Repeat("x", max(0, pick(&seed, 10)-8)))
		checkPlainParse(t, s)
		for range pick(&seed, 3) {
			s = changed(&seed, s)
			checkPlainParse(t, s)
		}
	}
}

func TestShort(t *testing.T) {
	// All bytes of a small alphabet behind the signature, up to the end of a name.
	letters := []string{"\x00", "\x01", "\x80", "I", "e"}
	texts := []string{""}
	for range 6 {
		var next []string
		for _, s := range texts {
			checkPlainParse(t, s)
			checkPlainParse(t, mark+s)
			checkPlainParse(t, mark+"\x00\x00"+s)
			checkPlainParse(t, mark+iend[:6]+s)
			for _, l := range letters {
				next = append(next, s+l)
			}
		}
		texts = next
	}
}

// P12.1: Write

func TestWriteKnown(t *testing.T) {
	for _, x := range []struct {
		list []api.Chunk
		want string
	}{
		{[]api.Chunk{{Name: "IEND"}}, mark + iend},
		{[]api.Chunk{{Name: "IEND", Data: []byte{}}}, mark + iend},
		{[]api.Chunk{{Name: "gAMA", Data: []byte{0, 0, 0xb1, 0x8f}}, {Name: "IEND"}}, mark + "\x00\x00\x00\x04gAMA\x00\x00\xb1\x8f\x0b\xfc\x61\x05" + iend},
	} {
		b, err := Write(x.list)
		if err != nil || string(b) != x.want {
			t.Errorf("%x, %v", b, err)
		}
	}
}

func TestWriteNames(t *testing.T) {
	end := api.Chunk{Name: "IEND"}
	for _, name := range wrongNames() {
		for _, list := range [][]api.Chunk{
			{{Name: name}}, {{Name: name}, end}, {{Name: "IDAT"}, {Name: name, Data: []byte("abc")}, end}, {end, {Name: name}}, {{Name: name}, {Name: name}, end},
		} {
			if b, err := Write(list); err != api.ErrForm || len(b) > 0 {
				t.Errorf("%q: %x, %v", name, b, err)
			}
		}
	}
	for at := range 4 {
		for x := range 256 {
			b := []byte("tEXt")
			b[at] = byte(x)
			checkWrite(t, []api.Chunk{{Name: string(b), Data: []byte("abc")}, end})
		}
	}
}

func TestWriteLast(t *testing.T) {
	end, other, full := api.Chunk{Name: "IEND"}, api.Chunk{Name: "tEXt", Data: []byte("abc")}, api.Chunk{Name: "IEND", Data: []byte{0}}
	small := api.Chunk{Name: "iEND"}
	lists := [][]api.Chunk{nil}
	for range 5 {
		var next [][]api.Chunk
		for _, list := range lists {
			checkWrite(t, list)
			for _, c := range []api.Chunk{end, other, full, small} {
				next = append(next, append(slices.Clone(list), c))
			}
		}
		lists = next
	}
	for _, list := range [][]api.Chunk{nil, {}, {other}, {full}, {end, end}, {end, other}, {other, full}, {full, end}, {small}} {
		if b, err := Write(list); err != api.ErrForm || len(b) > 0 {
			t.Error(list, b, err)
		}
	}
}

func TestWriteMost(t *testing.T) {
	room := 1<<20 - len(mark) - 12 - len(iend)
	for _, x := range []struct {
		list []api.Chunk
		want error
	}{
		{[]api.Chunk{{Name: "IDAT", Data: make([]byte, room)}, {Name: "IEND"}}, nil},
		{[]api.Chunk{{Name: "IDAT", Data: make([]byte, room+1)}, {Name: "IEND"}}, api.ErrTooLarge},
		{[]api.Chunk{{Name: "IDAT", Data: make([]byte, room-12)}, {Name: "IDAT"}, {Name: "IEND"}}, nil},
		{[]api.Chunk{{Name: "IDAT", Data: make([]byte, room-11)}, {Name: "IDAT"}, {Name: "IEND"}}, api.ErrTooLarge},
		{[]api.Chunk{{Name: "IDAT", Data: make([]byte, 1<<22)}, {Name: "IEND"}}, api.ErrTooLarge},
		// What isn't in form goes before what is too large.
		{[]api.Chunk{{Name: "IDAT", Data: make([]byte, 1<<20)}, {Name: "IDA"}, {Name: "IEND"}}, api.ErrForm},
		{[]api.Chunk{{Name: "IDAT", Data: make([]byte, 1<<20)}}, api.ErrForm},
		{[]api.Chunk{{Name: "IEND", Data: make([]byte, 1<<20)}}, api.ErrForm},
		{[]api.Chunk{{Name: "IDAT", Data: make([]byte, 1<<20)}, {Name: "IEND"}, {Name: "IEND"}}, api.ErrForm},
	} {
		b, err := Write(x.list)
		if err != x.want || len(b) > 1<<20 || err != nil && len(b) > 0 {
			t.Errorf("%d chunks of %d bytes first: %d bytes, %v; want %v", len(x.list), len(x.list[0].Data), len(b), err, x.want)
		}
		if err == nil && len(b) < 1<<20-12 {
			t.Error(len(b))
		}
	}
}

func TestWriteMany(t *testing.T) {
	n := (1<<20 - len(mark) - len(iend)) / 12
	b, err := Write(append(slices.Repeat([]api.Chunk{{Name: "IDAT"}}, n), api.Chunk{Name: "IEND"}))
	if err != nil || string(b) != mark+strings.Repeat(plain("IDAT", ""), n)+iend {
		t.Fatal(len(b), err)
	}
	b, err = Write(append(slices.Repeat([]api.Chunk{{Name: "IDAT"}}, n+1), api.Chunk{Name: "IEND"}))
	if err != api.ErrTooLarge || len(b) > 0 {
		t.Fatal(len(b), err)
	}
	// Chunks may share their data: together they are more than there ever is.
	data := make([]byte, 1<<20)
	b, err = Write(append(slices.Repeat([]api.Chunk{{Name: "IDAT", Data: data}}, 1<<18), api.Chunk{Name: "IEND"}))
	if err != api.ErrTooLarge || len(b) > 0 {
		t.Fatal(len(b), err)
	}
}

func TestWriteAnything(t *testing.T) {
	seed := uint64(2)
	for range 20000 {
		list := someChunks(&seed, 4, 20)
		checkWrite(t, list)
		list[pick(&seed, len(list))].Name = [...]string{"IEND", "IDAT", "", "ID4T", "tEXté"}[pick(&seed, 5)]
		checkWrite(t, list)
		list[pick(&seed, len(list))].Data = someData(&seed, 3)
		checkWrite(t, list)
	}
}

// P12.1: Signed

func TestSigned(t *testing.T) {
	for n := range len(mark) {
		if Signed([]byte(mark[:n])) || Signed([]byte(mark[:n]+iend)) || Signed([]byte(mark[n+1:])) {
			t.Error(n)
		}
		for x := range 256 {
			b := []byte(mark + "more")
			same := b[n] == byte(x)
			b[n] = byte(x)
			if Signed(b) != same {
				t.Errorf("%x", b)
			}
		}
	}
	if Signed(nil) || Signed([]byte(" "+mark)) || Signed([]byte("\xef\xbf\xbdPNG\r\n\x1a\n")) {
		t.Error("signed")
	}
	for _, more := range []string{"", "\x00", iend, "nothing like it", strings.Repeat("\x00", 1<<20)} {
		if !Signed([]byte(mark + more)) {
			t.Errorf("%.20x", more)
		}
	}
}

// P12.1: Named, Critical, Safe

// wrongNames is texts that aren't four letters.
func wrongNames() []string {
	return []string{
		"", "I", "ID", "IDA", "IDATA", "IDATIDAT", "IDAT ", " IDAT", "IDAT\x00", "\x00IDAT", "ID T", "ID1T", "1DAT", "IDA0", "I-AT", "I_AT", "ID\x00T", "\xc9DAT",
		"@BCD", "A[CD", "AB`D", "ABC{", "abc@", "ab[d", "a`cd", "{bcd",
		"éabc", "abcé", "éab", "aéb", "abé", "éé", "éééé", "Ａbcd", "ＡＢＣＤ", "ſabc", "ab\u212ac", "\u212aabc", "ÄÖÜß", "日本語版", "𝐀bcd", "\xff\xff\xff\xff", "abc\xff", "ab\xc3d", "\xf0\x9f\x98\x80",
		"abcd\xff", "abcdé", strings.Repeat("a", 260), strings.Repeat("a", 1<<16+4), strings.Repeat("IDAT", 1<<14),
	}
}

func TestNames(t *testing.T) {
	for _, name := range wrongNames() {
		if Named(name) || Critical(name) || Safe(name) {
			t.Errorf("%.20q (%d bytes): %v %v %v", name, len(name), Named(name), Critical(name), Safe(name))
		}
	}
	for _, x := range []struct {
		name           string
		critical, safe bool
	}{
		{"IHDR", true, false}, {"PLTE", true, false}, {"IDAT", true, false}, {"IEND", true, false},
		{"tRNS", false, false}, {"bKGD", false, false}, {"gAMA", false, false}, {"pHYs", false, true}, {"tEXt", false, true}, {"zTXt", false, true}, {"iTXt", false, true}, {"tIME", false, false},
		{"IDAt", true, true}, {"aaaa", false, true}, {"ZZZZ", true, false}, {"Aaaa", true, true}, {"aAAA", false, false}, {"zzzz", false, true}, {"AAAz", true, true}, {"zZZZ", false, false}, {"AzzZ", true, false}, {"ABcD", true, false}, {"abCD", false, false},
	} {
		if !Named(x.name) || Critical(x.name) != x.critical || Safe(x.name) != x.safe {
			t.Error(x.name, Named(x.name), Critical(x.name), Safe(x.name))
		}
	}
}

func TestNamesOfEdges(t *testing.T) {
	edges := "\x00 @AIZ[`aiz{\x7f\x80\xc3\xa9\xff"
	texts := []string{""}
	for n := range 6 {
		var next []string
		for _, s := range texts {
			named := plainNamed(s)
			if Named(s) != named || Critical(s) != (named && s[0] <= 'Z') || Safe(s) != (named && s[3] >= 'a') {
				t.Fatalf("%q: %v %v %v", s, Named(s), Critical(s), Safe(s))
			}
			for i := range len(edges) {
				if n < 4 || i%5 == 4 {
					next = append(next, s+edges[i:i+1])
				}
			}
		}
		texts = next
	}
}

func TestNamesOfOneOther(t *testing.T) {
	for _, word := range []string{"tEXt", "IDAT"} {
		for at := range 4 {
			for r := range rune(0x11000) {
				if s := word[:at] + string(r) + word[at+1:]; Named(s) != plainNamed(s) {
					t.Fatalf("%q", s)
				}
			}
			for x := range 256 {
				b := []byte(word)
				b[at] = byte(x)
				s := string(b)
				named := plainNamed(s)
				if Named(s) != named || Critical(s) != (named && s[0] <= 'Z') || Safe(s) != (named && s[3] >= 'a') {
					t.Fatalf("%q: %v %v %v", s, Named(s), Critical(s), Safe(s))
				}
			}
		}
	}
}

// P12.1: Find

// found is what an iterator gives.
type found struct {
	at   int
	name string
	data string
}

// findAll is all chunks of a name.
func findAll(list []api.Chunk, name string) []found {
	var out []found
	for at, c := range Find(list, name) {
		out = append(out, found{at, c.Name, string(c.Data)})
	}
	return out
}

func TestFind(t *testing.T) {
	list := []api.Chunk{{Name: "IHDR", Data: []byte("head")}, {Name: "IDAT", Data: []byte("one")}, {Name: "tEXt"}, {Name: "IDAT"}, {Name: "IDAT", Data: []byte("one")}, {Name: "", Data: []byte("none")}, {Name: "not a name", Data: []byte("no")}, {Name: "idat"}, {Name: "IEND"}}
	for _, x := range []struct {
		name string
		want []found
	}{
		{"IHDR", []found{{0, "IHDR", "head"}}},
		{"IDAT", []found{{1, "IDAT", "one"}, {3, "IDAT", ""}, {4, "IDAT", "one"}}},
		{"tEXt", []found{{2, "tEXt", ""}}},
		{"IEND", []found{{8, "IEND", ""}}},
		{"idat", []found{{7, "idat", ""}}},
		{"IDA", nil}, {"IDATA", nil}, {"PLTE", nil}, {"text", nil}, {"TEXT", nil}, {"iend", nil}, {"\x00", nil},
		{"", []found{{5, "", "none"}}},
		{"not a name", []found{{6, "not a name", "no"}}},
	} {
		if got := findAll(list, x.name); !slices.Equal(got, x.want) {
			t.Errorf("%q: %v, want %v", x.name, got, x.want)
		}
	}
	for _, none := range [][]api.Chunk{nil, {}} {
		if got := findAll(none, "IDAT"); len(got) > 0 {
			t.Error(got)
		}
	}
}

func TestFindAnything(t *testing.T) {
	seed := uint64(3)
	for range 2000 {
		list := someChunks(&seed, 30, 5)
		for _, name := range []string{list[0].Name, list[len(list)/2].Name, "IEND", "IDAT", "none"} {
			var want []found
			for at, c := range list {
				if c.Name == name {
					want = append(want, found{at, c.Name, string(c.Data)})
				}
			}
			if got := findAll(list, name); !slices.Equal(got, want) {
				t.Fatalf("%q: %v, want %v", name, got, want)
			}
		}
	}
}

func TestFindLeft(t *testing.T) {
	list := slices.Repeat([]api.Chunk{{Name: "IDAT"}, {Name: "tEXt"}}, 10)
	chunks := Find(list, "tEXt")
	for most := 1; most <= 10; most++ {
		n := 0
		chunks(func(at int, c api.Chunk) bool {
			if at != 2*n+1 || n >= most {
				t.Fatal(at, n, most)
			}
			n++
			return n < most
		})
		if n != most {
			t.Error(n, most)
		}
	}
	// A loop within the loop is on its own.
	n := 0
	for range chunks {
		for range chunks {
			n++
		}
	}
	if n != 100 {
		t.Error(n)
	}
}

// P12.2

func TestParseWritten(t *testing.T) {
	seed := uint64(4)
	for i := range 3000 {
		list := someChunks(&seed, 6, 10+i%7*40)
		b, err := Write(list)
		if err != nil {
			t.Fatal(err)
		}
		checkParse(t, string(b), list, nil)
		read, err := Parse(b)
		if err != nil {
			t.Fatal(err)
		}
		again, err := Write(read)
		if err != nil || !bytes.Equal(again, b) {
			t.Fatalf("%x, %v; want %x", again, err, b)
		}
	}
	for x := range 256 {
		list := []api.Chunk{{Name: "IDAT", Data: bytes.Repeat([]byte{byte(x)}, x)}, {Name: "IEND"}}
		b, err := Write(list)
		if err != nil {
			t.Fatal(err)
		}
		checkParse(t, string(b), list, nil)
	}
	for _, n := range []int{255, 256, 257, 65535, 65536, 65537, 1<<20 - 32} {
		list := []api.Chunk{{Name: "IDAT", Data: bytes.Repeat([]byte{7, 1}, n)[:n]}, {Name: "IEND"}}
		b, err := Write(list)
		if err != nil || len(b) != n+32 {
			t.Fatal(len(b), err)
		}
		checkParse(t, string(b), list, nil)
	}
}

func TestWriteParsed(t *testing.T) {
	texts := []string{mark + iend, string(somePicture(t)), mark + strings.Repeat(plain("teXt", "\x00\xff"), 5) + iend, mark + plain("IDAT", strings.Repeat("\x00", 1<<16)) + plain("zzzz", "") + iend}
	seed := uint64(5)
	for range 500 {
		s, err := plainWrite(someChunks(&seed, 5, 30))
		if err != nil {
			t.Fatal(err)
		}
		texts = append(texts, s)
	}
	for _, s := range texts {
		list, err := Parse([]byte(s))
		if err != nil {
			t.Fatal(err)
		}
		b, err := Write(list)
		if err != nil || string(b) != s {
			t.Fatalf("%d bytes, %v; want %d", len(b), err, len(s))
		}
	}
}

// P12.3

// checkChanged refuses bytes with any bit changed in the signature, a name, data or a CRC, as what they are then.
func checkChanged(t *testing.T, list []api.Chunk) {
	t.Helper()
	b, err := Write(list)
	if err != nil {
		t.Fatal(err)
	}
	lengths := map[int]bool{} // where a length stands
	at := len(mark)
	for _, c := range list {
		for i := range 4 {
			lengths[at+i] = true
		}
		at += 12 + len(c.Data)
	}
	for at := range b {
		for bit := range 8 {
			b[at] ^= 1 << bit
			if lengths[at] {
				checkPlainParse(t, string(b))
			} else {
				checkParse(t, string(b), nil, api.ErrMalformed)
			}
			b[at] ^= 1 << bit
		}
	}
	checkParse(t, string(b), list, nil)
}

func TestChanged(t *testing.T) {
	for _, list := range [][]api.Chunk{
		{{Name: "IEND"}},
		{{Name: "tEXt", Data: []byte("a\x00b")}, {Name: "prVt"}, {Name: "IEND"}},
		// With one bit changed, this name is that of the last chunk.
		{{Name: "IENE"}, {Name: "iEND"}, {Name: "IEND"}},
		{{Name: "IDAT", Data: make([]byte, 700)}, {Name: "IEND"}},
		{{Name: "IDAT", Data: bytes.Repeat([]byte{0xff}, 300)}, {Name: "IDAT", Data: []byte(iend)}, {Name: "IEND"}},
	} {
		checkChanged(t, list)
	}
	seed := uint64(6)
	for range 30 {
		checkChanged(t, someChunks(&seed, 4, 40))
	}
}

func TestChangedLong(t *testing.T) {
	seed := uint64(7)
	data := someData(&seed, 1)
	for range 1 << 17 {
		data = append(data, byte(pick(&seed, 256)))
	}
	list := []api.Chunk{{Name: "IDAT", Data: data}, {Name: "IEND"}}
	b, err := Write(list)
	if err != nil {
		t.Fatal(err)
	}
	for range 100 {
		at, bit := 16+pick(&seed, len(data)), pick(&seed, 8)
		b[at] ^= 1 << bit
		if list, err := Parse(b); err != api.ErrMalformed || len(list) > 0 {
			t.Fatal(at, bit, len(list), err)
		}
		b[at] ^= 1 << bit
	}
}

// P12.4

// spoil writes over bytes, and over the room behind them.
func spoil(b []byte) {
	b = b[:cap(b)]
	for i := range b {
		b[i] ^= 0x5a
	}
}

// spoilAll writes over chunks, their data, and the room behind them.
func spoilAll(list []api.Chunk) {
	for _, c := range list {
		spoil(c.Data)
	}
	list = list[:cap(list)]
	for i := range list {
		list[i] = api.Chunk{Name: "sPoi", Data: []byte("spoilt")}
	}
}

// roomy is a list with others in the room behind it.
func roomy[T any](list []T, more ...T) []T {
	return append(slices.Clone(list), more...)[:len(list)]
}

// roomyChunks is chunks whose list and data have others in the room behind them.
func roomyChunks(list []api.Chunk) []api.Chunk {
	out := roomy(list, api.Chunk{Name: "more", Data: []byte("behind")}, api.Chunk{Name: "IEND"})
	for i := range out {
		out[i].Data = roomy(out[i].Data, 1, 2, 3, 4, 5)
	}
	return out
}

// deep is a copy of chunks, with the room behind them and their data.
func deep(list []api.Chunk) []api.Chunk {
	out := slices.Clone(list[:cap(list)])
	for i := range out {
		out[i].Data = slices.Clone(out[i].Data[:cap(out[i].Data)])
	}
	return out
}

// unchanged tells whether chunks are what they were when they were copied.
func unchanged(list, held []api.Chunk) bool {
	return same(deep(list), held)
}

func someLists() [][]api.Chunk {
	seed := uint64(8)
	lists := [][]api.Chunk{nil, {{Name: "IEND"}}, {{Name: "IDAT"}}, {{Name: "tEXt", Data: []byte("abc")}, {Name: "tEXt", Data: []byte("def")}, {Name: "IEND"}}, {{Name: "wrong name"}, {Name: "IEND"}}}
	for range 20 {
		lists = append(lists, someChunks(&seed, 9, 30))
	}
	return lists
}

func TestListStays(t *testing.T) {
	for _, list := range someLists() {
		want, wantErr := plainWrite(list)
		in := roomyChunks(list)
		held := deep(in)
		one, err := Write(in)
		two, errTwo := Write(in)
		if !unchanged(in, held) || string(one) != want || err != wantErr || errTwo != wantErr {
			t.Fatal(string(one), err, errTwo)
		}
		spoil(one)
		if !unchanged(in, held) {
			t.Fatal("the answer shares memory with the argument")
		}
		spoilAll(in)
		if string(two) != want {
			t.Fatal("two answers share memory, or one with the argument")
		}
	}
}

func TestBytesStay(t *testing.T) {
	for _, list := range someLists() {
		s, _ := plainWrite(list)
		for _, s := range []string{s, s + "\x00", s[:len(s)/2], strings.Replace(s, "IEND", "IENX", 1)} {
			want, wantErr := plainParse(s)
			in := roomy([]byte(s), 0, 0, 0, 0, 'I', 'E', 'N', 'D', 0xae, 0x42, 0x60, 0x82)
			held := slices.Clone(in[:cap(in)])
			if Signed(in) != strings.HasPrefix(s, mark) {
				t.Fatal("signed")
			}
			one, err := Parse(in)
			two, errTwo := Parse(in)
			if !bytes.Equal(in[:cap(in)], held) || !same(one, want) || err != wantErr || errTwo != wantErr {
				t.Fatal(one, err, errTwo)
			}
			spoilAll(one)
			if !bytes.Equal(in[:cap(in)], held) {
				t.Fatal("the answer shares memory with the argument")
			}
			spoil(in)
			if !same(two, want) {
				t.Fatal("two answers share memory, or one with the argument")
			}
		}
	}
}

func TestResultsApart(t *testing.T) {
	list := []api.Chunk{{Name: "IDAT", Data: []byte("abcdefg")}, {Name: "IDAT", Data: []byte("h")}, {Name: "tEXt"}, {Name: "IDAT", Data: []byte("ijklmnopqrstuvw")}, {Name: "IEND"}}
	b, err := Write(list)
	if err != nil {
		t.Fatal(err)
	}
	for spoilt := range list {
		read, err := Parse(b)
		if err != nil {
			t.Fatal(err)
		}
		spoil(read[spoilt].Data)
		read[spoilt].Data = append(read[spoilt].Data, "and more than that"...)
		for i, c := range read {
			if i != spoilt && !bytes.Equal(c.Data, list[i].Data) {
				t.Errorf("%d, with %d: %q", i, spoilt, c.Data)
			}
		}
	}
}

func TestFoundStays(t *testing.T) {
	for _, list := range someLists() {
		for _, name := range []string{"IDAT", "tEXt", "IEND", "wrong name", "more"} {
			want := findAll(list, name)
			in := roomyChunks(list)
			held := deep(in)
			chunks := Find(in, name)
			for round := range 3 {
				var got []found
				var kept []api.Chunk
				for at, c := range chunks {
					got = append(got, found{at, c.Name, string(c.Data)})
					kept = append(kept, c)
				}
				if !slices.Equal(got, want) {
					t.Fatalf("round %d: %v, want %v", round, got, want)
				}
				// No chunk that the loop got is another one, the argument, or what the next loop gets.
				for i, c := range kept {
					spoil(c.Data)
					for j, d := range kept[i+1:] {
						if string(d.Data) != want[i+1+j].data {
							t.Fatal("two chunks share memory")
						}
					}
				}
				if round == 0 {
					if !unchanged(in, held) {
						t.Fatal("written over")
					}
					spoilAll(in)
				}
			}
		}
	}
}

func TestSharedData(t *testing.T) {
	data := []byte("abc")
	list := []api.Chunk{{Name: "tEXt", Data: data}, {Name: "tEXt", Data: data}, {Name: "IEND"}}
	checkWrite(t, list)
	for at, c := range Find(list, "tEXt") {
		if string(c.Data) != "abc" {
			t.Error(at, string(c.Data))
		}
		spoil(c.Data)
	}
	if string(data) != "abc" {
		t.Error(string(data))
	}
}
