package zlib

import (
	"bytes"
	"compress/flate"
	other "compress/zlib"
	"encoding/hex"
	"io"
	"math"
	"slices"
	"strings"
	"testing"

	"burnish/api"
	"burnish/inflate"
)

// check holds what is answered for wrapped bytes against what it should be.
func check(t *testing.T, b []byte, most int, text []byte, took int, want error) {
	t.Helper()
	out, n, err := Unwrap(b, most)
	if err != want || n != took || !bytes.Equal(out, text) || err != nil && len(out) > 0 {
		t.Fatalf("%d bytes, %.40x.., with at most %d: %d bytes, %d taken, %v; want %d, %d, %v", len(b), b, most, len(out), n, err, len(text), took, want)
	}
}

// checkError holds wrapped bytes against the error, with any number of bytes behind them if it doesn't hang on their end.
func checkError(t *testing.T, b []byte, most int, want error) {
	t.Helper()
	check(t, b, most, nil, 0, want)
	if want == api.ErrEnd {
		return
	}
	for _, more := range []string{"\x00", "\xff\xff", "\x00\x00\x00\x01", "more than four"} {
		check(t, append(slices.Clone(b), more...), most, nil, 0, want)
	}
}

// empty is no bytes, packed and with their sum.
const empty = "\x03\x00\x00\x00\x00\x01"

// P7.1: Unwrap

func TestUnwrapKnown(t *testing.T) {
	for _, x := range []struct {
		in, want string
		took     int
	}{
		{"7801030000000001", "", 8},
		{"789c030000000001", "", 8},
		{"081d030000000001", "", 8},
		{"78014b040000620062", "a", 9},
		{"78da4b040000620062", "a", 9},
		{"7801010300fcff616263024d0127", "abc", 14},
	} {
		b, err := hex.DecodeString(x.in)
		if err != nil {
			t.Fatal(err)
		}
		check(t, b, 100, []byte(x.want), x.took, nil)
	}
}

// All heads: alone, with nothing behind them that is packed, and with what is good.
func TestHeads(t *testing.T) {
	good := 0
	for first := range 256 {
		for second := range 256 {
			b := []byte{byte(first), byte(second)}
			want := headError(first, second)
			if want != nil {
				checkError(t, b, 5, want)
				check(t, append(b, empty...), 0, nil, 0, want)
				continue
			}
			good++
			check(t, b, 5, nil, 0, api.ErrEnd)
			check(t, append(b, empty...), 0, nil, 8, nil)
		}
		check(t, []byte{byte(first)}, 5, nil, 0, api.ErrEnd)
	}
	// Of the second bytes, 8 or 9 are divisible with each of the eight first ones, and 4 of these have no dictionary.
	if good != 8*4 {
		t.Error(good, "good heads")
	}
	check(t, nil, 5, nil, 0, api.ErrEnd)
	check(t, []byte{}, 5, nil, 0, api.ErrEnd)
}

// The kinds of faults of a head, each by itself and together with others.
func TestHeadKnown(t *testing.T) {
	for _, x := range []struct {
		head string
		want error
	}{
		{"\x78\x01", nil}, {"\x78\x5e", nil}, {"\x78\x9c", nil}, {"\x78\xda", nil}, {"\x08\x1d", nil}, {"\x18\x19", nil}, {"\x68\x05", nil},
		{"\x78\x00", api.ErrMalformed}, {"\x78\x02", api.ErrMalformed}, {"\x78\x9d", api.ErrMalformed}, {"\x78\xff", api.ErrMalformed},
		{"\x79\x18", api.ErrMalformed}, {"\x77\x09", api.ErrMalformed}, {"\x70\x07", api.ErrMalformed}, // divisible, and not 8
		{"\x88\x1c", api.ErrMalformed}, {"\xf8\x00", api.ErrMalformed}, {"\x88\x3b", api.ErrMalformed}, // divisible, and w above 7
		{"\x78\x20", api.ErrUnsupported}, {"\x78\x3f", api.ErrUnsupported}, {"\x78\xbb", api.ErrUnsupported}, {"\x08\x3c", api.ErrUnsupported},
		{"\x78\x21", api.ErrMalformed}, {"\x78\x60", api.ErrMalformed}, // a dictionary, and not divisible
		{"\x79\x37", api.ErrMalformed}, // a dictionary, and not 8
	} {
		took := 0
		if x.want == nil {
			took = 8
		}
		if headError(int(x.head[0]), int(x.head[1])) != x.want {
			t.Fatalf("%x: the model says otherwise", x.head)
		}
		check(t, []byte(x.head+empty), 5, nil, took, x.want)
		check(t, []byte(x.head+empty+"\x00"), 5, nil, took, x.want)
	}
}

func TestRange(t *testing.T) {
	for _, in := range []string{"", "\x78", "\x79\x01", "\x88\x1c", "\x78\x02", "\x78\x20", "\x78\x01", "\x78\x01\x07", "\x78\x01" + empty, "\x78\x01\x03\x00\x00\x00\x00\x02"} {
		for _, most := range wild {
			check(t, []byte(in), most, nil, 0, api.ErrRange)
		}
		for _, most := range []int{0, 1, 1 << 22} {
			text, n, err := plainUnwrap([]byte(in), most)
			check(t, []byte(in), most, text, n, err)
		}
	}
}

// The errors of the packed bytes come before those of what follows.
func TestPackedErrors(t *testing.T) {
	for power := range 8 {
		head := string(plainHead(power))
		for _, x := range []struct {
			packed string
			most   int
			want   error
		}{
			{"", 5, api.ErrEnd},
			{"\x03", 5, api.ErrEnd},
			{"\x07", 5, api.ErrMalformed},                             // kind 3
			{"\x4b\x04", 5, api.ErrEnd},                               // a, and no end
			{"\x4b\x04\x00", 0, api.ErrTooLarge},                      // a
			{"\x01\x03\x00\xfc\xff\x61", 2, api.ErrTooLarge},          // three bytes, of which two aren't there
			{"\x01\x03\x00\xfc\xff\x61\x62", 3, api.ErrEnd},           // one of them isn't
			{"\x01\x03\x00\xfc\xfe\x61\x62\x63", 3, api.ErrMalformed}, // a wrong complement
			{"\x03\x02\x00\x00\x00\x00\x01", 5, api.ErrMalformed},     // a match at the start
		} {
			checkError(t, []byte(head+x.packed), x.most, x.want)
		}
	}
}

// A distance may be as great as the window, and not greater.
func TestWindowOfDistances(t *testing.T) {
	for power := range 8 {
		window := 256 << power
		for _, dist := range []int{1, 255, 256, 257, 511, 512, 513, window - 1, window, window + 1, 2*window - 1, 2 * window, 32767, 32768} {
			if dist > 32768 {
				continue
			}
			tokens := reaching(dist)
			text := expand(tokens)
			b := plainWrap(power, pack(t, tokens), sumBytes(text))
			if dist <= window {
				check(t, b, len(text), text, len(b), nil)
			} else {
				checkError(t, b, len(text), api.ErrMalformed)
			}
		}
	}
}

// A distance that is too great is found wherever it stands, and however long its match is.
func TestWindowWherever(t *testing.T) {
	near := func(n int) []api.Token {
		return slices.Repeat([]api.Token{{Len: 258, Dist: 256}, {Len: 3, Dist: 1}}, n)
	}
	for _, length := range []int{3, 10, 257, 258} {
		far := []api.Token{{Len: length, Dist: 257}}
		for before := range 3 {
			for after := range 3 {
				tokens := slices.Concat(letters(300), near(before), far, near(after))
				text := expand(tokens)
				packed := pack(t, tokens)
				checkError(t, plainWrap(0, packed, sumBytes(text)), api.MaxPlain, api.ErrMalformed)
				check(t, plainWrap(1, packed, sumBytes(text)), api.MaxPlain, text, len(packed)+6, nil)
				without := slices.Concat(letters(300), near(before+after))
				text = expand(without)
				packed = pack(t, without)
				check(t, plainWrap(0, packed, sumBytes(text)), api.MaxPlain, text, len(packed)+6, nil)
			}
		}
	}
}

// The distances are checked after all that layer 6 refuses, and before the sum.
func TestWindowOrder(t *testing.T) {
	tokens := reaching(300)
	text := expand(tokens)
	packed := pack(t, tokens)
	for power, want := range []error{api.ErrMalformed, api.ErrEnd} {
		for have := range 4 {
			check(t, plainWrap(power, packed, sumBytes(text)[:have]), len(text), nil, 0, want)
		}
	}
	for power := range 2 {
		check(t, plainWrap(power, packed, sumBytes(text)), len(text)-1, nil, 0, api.ErrTooLarge)
		check(t, plainWrap(power, packed, nil), len(text)-1, nil, 0, api.ErrTooLarge)
		check(t, plainWrap(power, packed[:len(packed)-1], nil), len(text), nil, 0, api.ErrEnd)
		check(t, plainWrap(power, packOpen(t, tokens), nil), len(text), nil, 0, api.ErrEnd)
		check(t, plainWrap(power, packAndThen(t, tokens, 2), nil), len(text), nil, 0, api.ErrEnd)
		check(t, plainWrap(power, packAndThen(t, tokens, 3), nil), len(text), nil, 0, api.ErrMalformed)
	}
}

// A stream ends too early wherever it ends.
func TestCut(t *testing.T) {
	for power, tokens := range [][]api.Token{nil, letters(1), letters(300), reaching(20)} {
		text := expand(tokens)
		b := plainWrap(power, pack(t, tokens), sumBytes(text))
		for n := range len(b) {
			check(t, b[:n], len(text), nil, 0, api.ErrEnd)
		}
		check(t, b, len(text), text, len(b), nil)
	}
}

func TestMoreIsIgnored(t *testing.T) {
	text := expand(reaching(20))
	b := plainWrap(7, pack(t, reaching(20)), sumBytes(text))
	for _, more := range []string{"", "\x00", "\xff", "another", string(b), strings.Repeat("\x00", 10000)} {
		check(t, append(slices.Clone(b), more...), len(text), text, len(b), nil)
	}
}

func TestWrongSums(t *testing.T) {
	for _, tokens := range [][]api.Token{nil, letters(1), letters(300), reaching(256)} {
		text := expand(tokens)
		packed, sum := pack(t, tokens), sumBytes(text)
		for i := range 32 {
			wrong := slices.Clone(sum)
			wrong[i/8] ^= 1 << (i % 8)
			checkError(t, plainWrap(0, packed, wrong), len(text), api.ErrMalformed)
		}
		turned := slices.Clone(sum)
		slices.Reverse(turned)
		if !bytes.Equal(turned, sum) {
			checkError(t, plainWrap(0, packed, turned), len(text), api.ErrMalformed)
		}
		check(t, plainWrap(0, packed, sum), len(text), text, len(packed)+6, nil)
	}
}

func TestMostPlain(t *testing.T) {
	for _, size := range []int{1<<22 - 1, 1 << 22, 1<<22 + 1} {
		text := make([]byte, size)
		var packed bytes.Buffer
		w, err := flate.NewWriter(&packed, flate.BestSpeed)
		if err != nil {
			t.Fatal(err)
		}
		if _, err := w.Write(text); err != nil || w.Close() != nil {
			t.Fatal(err)
		}
		b := plainWrap(0, packed.Bytes(), sumBytes(text))
		if size > 1<<22 {
			check(t, b, 1<<22, nil, 0, api.ErrTooLarge)
			continue
		}
		check(t, b, 1<<22, text, len(b), nil)
		check(t, b, size, text, len(b), nil)
		check(t, b, size-1, nil, 0, api.ErrTooLarge)
	}
}

// Changed streams, against the document's words.
func TestChanged(t *testing.T) {
	seed := uint64(1)
	kinds := map[error]int{}
	for i := range 3000 {
		tokens := someTokens(&seed)
		text := expand(tokens)
		b := plainWrap(pick(&seed, 8), pack(t, tokens), sumBytes(text))
		for range pick(&seed, 3) {
			b[pick(&seed, len(b))] ^= 1 << pick(&seed, 8)
		}
		if i%7 == 0 {
			b[1] += 31 // still divisible, and with a dictionary
		}
		if i%5 == 0 {
			b = b[:pick(&seed, len(b)+1)]
		}
		most := len(text) + pick(&seed, 3) - 1
		want, n, err := plainUnwrap(b, most)
		check(t, b, most, want, n, err)
		kinds[err]++
	}
	for _, err := range []error{nil, api.ErrMalformed, api.ErrUnsupported, api.ErrTooLarge, api.ErrEnd} {
		if kinds[err] < 10 {
			t.Error("only", kinds[err], "of", err)
		}
	}
}

// Bytes of no pattern behind a head that is good.
func TestAnything(t *testing.T) {
	seed := uint64(2)
	for range 3000 {
		b := make([]byte, pick(&seed, 60))
		for i := range b {
			b[i] = byte(pick(&seed, 256))
		}
		b = append(plainHead(pick(&seed, 8)), b...)
		want, n, err := plainUnwrap(b, 100)
		check(t, b, 100, want, n, err)
	}
}

// someTokens is some tokens that stand for something.
func someTokens(seed *uint64) []api.Token {
	out := letters(1 + pick(seed, 700))
	size := len(out)
	for range pick(seed, 20) {
		t := api.Token{Dist: pick(seed, 256)}
		if pick(seed, 3) > 0 {
			t = api.Token{Len: 3 + pick(seed, 256), Dist: 1 + pick(seed, min(size, 32768))}
		}
		out = append(out, t)
		size += max(1, t.Len)
	}
	return out
}

// P7.1: Wrap

func TestWrapKnown(t *testing.T) {
	for _, x := range []struct {
		packed, text string
		window       int
		want         string
	}{
		{"\x03\x00", "", 32768, "7801030000000001"},
		{"\x4b\x04\x00", "a", 32768, "78014b040000620062"},
		{"\x03\x00", "", 256, "081d030000000001"},
		{"\x03\x00", "", 512, "1819030000000001"},
		{"\x03\x00", "", 1024, "2815030000000001"},
		{"\x03\x00", "", 2048, "3811030000000001"},
		{"\x03\x00", "", 4096, "480d030000000001"},
		{"\x03\x00", "", 8192, "5809030000000001"},
		{"\x03\x00", "", 16384, "6805030000000001"},
		{"", "", 32768, "780100000001"},
		{"", "Wikipedia", 32768, "780111e60398"},
		{"not packed", "Wikipedia", 256, "081d" + hex.EncodeToString([]byte("not packed")) + "11e60398"},
	} {
		b, err := Wrap([]byte(x.packed), []byte(x.text), x.window)
		if hex.EncodeToString(b) != x.want || err != nil {
			t.Errorf("%x %q %d: %x %v, want %s", x.packed, x.text, x.window, b, err, x.want)
		}
	}
}

func TestWrapWindows(t *testing.T) {
	texts := [][]byte{nil, []byte("a"), bytes.Repeat([]byte{255}, 70000), expand(reaching(1000))}
	for power := range 8 {
		for _, text := range texts {
			for _, packed := range texts { // whatever it is
				b, err := Wrap(packed, text, 256<<power)
				if want := plainWrap(power, packed, sumBytes(text)); !bytes.Equal(b, want) || err != nil {
					t.Errorf("%d: %.30x %v, want %.30x", power, b, err, want)
				}
			}
		}
	}
}

func TestWrapRefuses(t *testing.T) {
	good := 0
	for window := -70000; window <= 140000; window++ {
		b, err := Wrap([]byte{3, 0}, nil, window)
		switch window {
		case 256, 512, 1024, 2048, 4096, 8192, 16384, 32768:
			if good++; err != nil {
				t.Errorf("%d: %v", window, err)
			}
		default:
			if b != nil || err != api.ErrForm {
				t.Errorf("%d: %x %v", window, b, err)
			}
		}
	}
	if good != 8 {
		t.Error(good)
	}
	for _, window := range append([]int{1<<32 + 32768, 1 << 40, 1 << 16, 1<<63 - 256}, wild...) {
		if b, err := Wrap(nil, nil, window); b != nil || err != api.ErrForm {
			t.Errorf("%d: %x %v", window, b, err)
		}
	}
}

// P7.1: Window

func TestWindowOfOne(t *testing.T) {
	want := 256
	for dist := 1; dist <= 32768; dist++ {
		if dist > want {
			want *= 2
		}
		for _, length := range []int{3, 258} {
			if w := Window([]api.Token{{Len: length, Dist: dist}}); w != want {
				t.Fatalf("%d %d: %d, want %d", length, dist, w, want)
			}
		}
	}
	if want != 32768 {
		t.Error(want)
	}
}

func TestWindowOfNoMatch(t *testing.T) {
	for _, tokens := range [][]api.Token{nil, {}, {{}}, letters(1000), {{Dist: 255}}, {{Dist: 257}}, {{Dist: 32768}}, {{Dist: math.MaxInt}}, {{Len: -1, Dist: 20000}}, {{Len: math.MinInt, Dist: 20000}}, {{Len: 3}}, {{Len: 3, Dist: -1}}, {{Len: 3, Dist: -20000}}, {{Len: 258, Dist: math.MinInt}}} {
		if w := Window(tokens); w != 256 {
			t.Errorf("%.80v: %d", tokens, w)
		}
	}
}

// What is no match in form counts too, if its Len is greater than 0.
func TestWindowOfAnything(t *testing.T) {
	for _, length := range []int{1, 2, 3, 258, 259, 1 << 40, math.MaxInt} {
		for dist, want := range map[int]int{math.MinInt: 256, -1: 256, 0: 256, 256: 256, 257: 512, 16384: 16384, 16385: 32768, 32768: 32768, 32769: 32768, 65536: 32768, 1 << 40: 32768, math.MaxInt: 32768} {
			if w := Window([]api.Token{{Len: length, Dist: dist}}); w != want {
				t.Errorf("%d %d: %d, want %d", length, dist, w, want)
			}
		}
	}
}

func TestWindowOfMany(t *testing.T) {
	seed := uint64(3)
	for range 2000 {
		var tokens []api.Token
		most := 0
		limit := 1 << pick(&seed, 17)
		for range pick(&seed, 12) {
			x := api.Token{Len: pick(&seed, 4) - 1, Dist: pick(&seed, limit)}
			tokens = append(tokens, x)
			if x.Len > 0 {
				most = max(most, x.Dist)
			}
		}
		want := 256
		for want < 32768 && want < most {
			want *= 2
		}
		if w := Window(tokens); w != want {
			t.Fatalf("%v: %d, want %d", tokens, w, want)
		}
	}
}

// P7.2

// someTexts is some texts that can be packed in several ways.
func someTexts() []string {
	out := []string{"", "a", "\x00", strings.Repeat("a", 70000), strings.Repeat("\xff", 6000), strings.Repeat("abcabcabd", 3000), string(expand(reaching(32768)))}
	seed := uint64(4)
	for range 20 {
		var text strings.Builder
		for size := pick(&seed, 50000); text.Len() < size; {
			text.WriteString(strings.Repeat(string(rune('a'+pick(&seed, 26))), 1+pick(&seed, 4)))
			if from := pick(&seed, text.Len()); pick(&seed, 5) == 0 {
				text.WriteString(text.String()[from:min(text.Len(), from+pick(&seed, 300))])
			}
		}
		out = append(out, text.String())
	}
	return out
}

// packOther is a text, packed by the library.
func packOther(t *testing.T, text string, level int) []byte {
	t.Helper()
	var b bytes.Buffer
	w, err := flate.NewWriter(&b, level)
	if err != nil {
		t.Fatal(err)
	}
	if _, err := io.WriteString(w, text); err != nil || w.Close() != nil {
		t.Fatal(err)
	}
	return b.Bytes()
}

func TestUnwrapWrapped(t *testing.T) {
	for _, text := range someTexts() {
		for level := flate.HuffmanOnly; level <= flate.BestCompression; level++ {
			packed := packOther(t, text, level)
			tokens, err := inflate.Tokens(packed, len(text))
			if err != nil {
				t.Fatal(err)
			}
			least := Window(tokens)
			for window := 256; window <= 32768; window *= 2 {
				b, err := Wrap(packed, []byte(text), window)
				if err != nil {
					t.Fatal(err)
				}
				if window < least {
					check(t, b, len(text), nil, 0, api.ErrMalformed)
					continue
				}
				check(t, b, len(text), []byte(text), len(b), nil)
			}
		}
	}
}

func TestOtherSumIsRefused(t *testing.T) {
	texts := someTexts()
	for i, text := range texts {
		packed := packOther(t, text, flate.BestSpeed)
		for _, wrong := range []string{text + "\x00", text + "a", "a" + text, "Wikipedia", texts[(i+1)%len(texts)]} {
			b, err := Wrap(packed, []byte(wrong), 32768)
			if err != nil {
				t.Fatal(err)
			}
			check(t, b, len(text), nil, 0, api.ErrMalformed)
		}
	}
}

// What the library wraps is read, and what is wrapped the library reads.
func TestOtherReader(t *testing.T) {
	for _, text := range someTexts() {
		for level := other.HuffmanOnly; level <= other.BestCompression; level++ {
			var b bytes.Buffer
			w, err := other.NewWriterLevel(&b, level)
			if err != nil {
				t.Fatal(err)
			}
			if _, err := io.WriteString(w, text); err != nil || w.Close() != nil {
				t.Fatal(err)
			}
			check(t, b.Bytes(), len(text), []byte(text), b.Len(), nil)
		}
		for power := range 8 {
			b, err := Wrap(packOther(t, text, 6), []byte(text), 256<<power)
			if err != nil {
				t.Fatal(err)
			}
			r, err := other.NewReader(bytes.NewReader(b))
			if err != nil {
				t.Fatal(err)
			}
			if out, err := io.ReadAll(r); string(out) != text || err != nil {
				t.Errorf("%d bytes: %d %v", len(text), len(out), err)
			}
		}
	}
}

// P7.3

// spoil writes over bytes, and over the room behind them.
func spoil(b []byte) {
	b = b[:cap(b)]
	for i := range b {
		b[i] ^= 0x5a
	}
}

// roomy is a list with others in the room behind it.
func roomy[T any](list []T, more ...T) []T {
	return append(slices.Clone(list), more...)[:len(list)]
}

func TestWrappedStays(t *testing.T) {
	for _, tokens := range [][]api.Token{nil, letters(5), reaching(300)} {
		text := expand(tokens)
		for power := range 8 {
			for _, b := range [][]byte{plainWrap(power, pack(t, tokens), sumBytes(text)), plainWrap(power, pack(t, tokens), []byte("wrong")), plainWrap(power, pack(t, tokens), nil)} {
				in := roomy(b, 1, 2, 3, 4, 5, 6)
				held := slices.Clone(in[:cap(in)])
				want, n, errWant := plainUnwrap(in, len(text))
				one, took, err := Unwrap(in, len(text))
				two, _, _ := Unwrap(in, len(text))
				if !bytes.Equal(in[:cap(in)], held) {
					t.Fatal("written over")
				}
				if !bytes.Equal(one, want) || took != n || err != errWant {
					t.Fatal(len(one), took, err)
				}
				spoil(one)
				if !bytes.Equal(in[:cap(in)], held) {
					t.Fatal("the answer shares memory with the argument")
				}
				spoil(in)
				if !bytes.Equal(two, want) {
					t.Fatal("two answers share memory, or one with the argument")
				}
				spoil(in)
				check(t, in, len(text), want, n, errWant)
			}
		}
	}
}

func TestPackedStays(t *testing.T) {
	text := expand(reaching(300))
	packed := roomy(pack(t, reaching(300)), 1, 2, 3, 4, 5, 6)
	in := roomy(text, 7, 8, 9)
	heldPacked, heldText := slices.Clone(packed[:cap(packed)]), slices.Clone(in[:cap(in)])
	for _, window := range []int{512, 100, 32768} {
		one, errOne := Wrap(packed, in, window)
		two, errTwo := Wrap(packed, in, window)
		spoil(one)
		if !bytes.Equal(packed[:cap(packed)], heldPacked) || !bytes.Equal(in[:cap(in)], heldText) {
			t.Fatal("written over")
		}
		if window == 100 {
			if errOne != api.ErrForm || errTwo != api.ErrForm {
				t.Fatal(errOne, errTwo)
			}
			continue
		}
		spoil(packed)
		spoil(in)
		check(t, two, len(text), text, len(heldPacked[:len(packed)])+6, nil)
		spoil(packed)
		spoil(in)
	}
}

func TestTokensStay(t *testing.T) {
	tokens := roomy(reaching(300), api.Token{Len: 3, Dist: 20000})
	held := slices.Clone(tokens[:cap(tokens)])
	if w := Window(tokens); w != 512 {
		t.Error(w)
	}
	if !slices.Equal(tokens[:cap(tokens)], held) {
		t.Error("written over")
	}
	tokens[300].Dist = 200
	if w := Window(tokens); w != 256 {
		t.Error(w)
	}
}
