package bits

import (
	"bytes"
	"errors"
	"math"
	"slices"
	"strings"
	"testing"

	"burnish/api"
)

// bothOrders is the low order, and the high one.
var bothOrders = []bool{false, true}

// pick is a number from 0 to n-1, the same each time for a seed.
func pick(seed *uint64, n int) int {
	*seed = *seed*6364136223846793005 + 1442695040888963407
	return int((*seed >> 33) % uint64(n))
}

// noise is n bytes of no pattern, the same each time, with many ff and 00.
func noise(n int) []byte {
	seed := uint64(n)
	out := make([]byte, n)
	for i := range out {
		switch pick(&seed, 4) {
		case 0:
			out[i] = 0xff
		case 1:
			out[i] = 0
		default:
			out[i] = byte(pick(&seed, 256))
		}
	}
	return out
}

// plainBits is a number as a text of 0 and 1, in the order in which they stand.
func plainBits(n, count int, high bool) string {
	out := make([]byte, count)
	for i := range out {
		place := i
		if high {
			place = count - 1 - i
		}
		out[i] = '0' + byte(n>>place&1)
	}
	return string(out)
}

// plainNumber is the number of a text of 0 and 1.
func plainNumber(text string, high bool) int {
	n := 0
	for i := range len(text) {
		place := i
		if high {
			place = len(text) - 1 - i
		}
		n += int(text[i]-'0') << place
	}
	return n
}

// plainFill is the text with what fills its last byte.
func plainFill(text string, high bool) string {
	for len(text)%8 != 0 {
		if high {
			text += "1"
		} else {
			text += "0"
		}
	}
	return text
}

// plainBytes is the bytes of a text of 0 and 1, the last one filled.
func plainBytes(text string, high bool) []byte {
	text = plainFill(text, high)
	var out []byte
	for i := 0; i < len(text); i += 8 {
		out = append(out, byte(plainNumber(text[i:i+8], high)))
	}
	return out
}

// plainText is the bits of bytes as a text of 0 and 1.
func plainText(b []byte, high bool) string {
	var out strings.Builder
	for _, x := range b {
		out.WriteString(plainBits(int(x), 8, high))
	}
	return out.String()
}

// edges is numbers of so many bits: the least, the greatest, and those with a pattern that tells its ends apart.
func edges(count int) []int {
	all := 1<<count - 1
	return []int{0, all, all / 2, all - all/2, all & 1, all & 0x9249b4a7, all & 0x12345678, all & 0xedcba987}
}

// wild is numbers that aren't a count.
var wild = []int{-1, -2, -8, -31, -32, -33, -64, math.MinInt32, math.MinInt + 1, math.MinInt, 33, 34, 40, 63, 64, 65, 128, 256, 1 << 31, 1 << 32, 1<<32 + 1, math.MaxInt - 1, math.MaxInt}

// P3.1: writers

// checkWriter holds a writer against the text of what was written.
func checkWriter(t *testing.T, w *Writer, text string, high bool) {
	t.Helper()
	if w.Len() != len(text) || w.High() != high {
		t.Fatalf("high %v: %d bits, want %d; High %v", high, w.Len(), len(text), w.High())
	}
	if b, want := w.Bytes(), plainBytes(text, high); !bytes.Equal(b, want) {
		t.Fatalf("high %v: %s are %x, want %x", high, text, b, want)
	}
}

func TestPutKnown(t *testing.T) {
	type put [2]int
	for _, x := range []struct {
		puts      []put
		low, high string
	}{
		{nil, "", ""},
		{[]put{{0, 0}}, "", ""},
		{[]put{{5, 3}, {1, 1}}, "\x0d", "\xbf"},
		{[]put{{0, 1}}, "\x00", "\x7f"},
		{[]put{{1, 1}}, "\x01", "\xff"},
		{[]put{{0, 7}}, "\x00", "\x01"},
		{[]put{{0, 8}}, "\x00", "\x00"},
		{[]put{{0, 9}}, "\x00\x00", "\x00\x7f"},
		{[]put{{0xa5, 8}}, "\xa5", "\xa5"},
		{[]put{{0x1234, 16}}, "\x34\x12", "\x12\x34"},
		{[]put{{0x12345678, 32}}, "\x78\x56\x34\x12", "\x12\x34\x56\x78"},
		{[]put{{1<<32 - 1, 32}}, "\xff\xff\xff\xff", "\xff\xff\xff\xff"},
		{[]put{{0, 4}, {0x12345678, 32}}, "\x80\x67\x45\x23\x01", "\x01\x23\x45\x67\x8f"},
		{[]put{{1, 1}, {0, 0}, {1, 1}, {0, 1}, {3, 3}, {0, 0}, {0, 3}}, "\x1b\x00", "\xcc\x7f"},
	} {
		for _, high := range bothOrders {
			w, want := NewWriter(high), x.low
			if high {
				want = x.high
			}
			for _, p := range x.puts {
				if err := w.Put(p[0], p[1]); err != nil {
					t.Error(x.puts, err)
				}
			}
			if b := w.Bytes(); string(b) != want {
				t.Errorf("%v, high %v: %x, want %x", x.puts, high, b, want)
			}
		}
	}
}

func TestPutEveryCountAndPlace(t *testing.T) {
	for _, high := range bothOrders {
		for from := range 17 {
			for count := range 33 {
				for _, n := range edges(count) {
					w := NewWriter(high)
					if err := errors.Join(w.Put(1<<from-1, from), w.Put(n, count)); err != nil {
						t.Fatal(from, n, count, err)
					}
					checkWriter(t, w, plainBits(1<<from-1, from, high)+plainBits(n, count, high), high)
				}
			}
		}
	}
}

func TestPutRefuses(t *testing.T) {
	for _, high := range bothOrders {
		for before := range 10 {
			w, text := NewWriter(high), plainBits(1, before, high)
			if before > 0 && w.Put(1, before) != nil {
				t.Fatal("Put")
			}
			refuse := func(n, count int) {
				t.Helper()
				if err := w.Put(n, count); err != api.ErrRange {
					t.Fatalf("%d of %d bits: %v", n, count, err)
				}
				checkWriter(t, w, text, high)
			}
			for _, count := range wild {
				for _, n := range []int{0, 1, -1, math.MaxInt, math.MinInt} {
					refuse(n, count)
				}
			}
			for count := range 33 {
				for _, n := range []int{-1, -2, -1 << count, -1<<count - 1, math.MinInt, math.MinInt32, 1 << count, 1<<count + 1, 1 << 32, 1<<32 + 1, 1 << 33, 1 << 62, math.MaxInt} {
					refuse(n, count)
				}
			}
			// It goes on where it was.
			if err := w.Put(5, 3); err != nil {
				t.Fatal(err)
			}
			checkWriter(t, w, text+plainBits(5, 3, high), high)
		}
	}
}

func TestAlignOfWriter(t *testing.T) {
	for _, high := range bothOrders {
		for before := range 33 {
			for _, n := range edges(before) {
				w := NewWriter(high)
				if err := w.Put(n, before); err != nil {
					t.Fatal(err)
				}
				text := plainFill(plainBits(n, before, high), high)
				for range 2 { // a second one finds no begun byte
					w.Align()
					checkWriter(t, w, text, high)
				}
				// What fills was written: the next number stands behind it.
				if err := w.Put(2, 3); err != nil {
					t.Fatal(err)
				}
				checkWriter(t, w, text+plainBits(2, 3, high), high)
			}
		}
	}
}

// Bytes completes a copy alone: the writer goes on within its begun byte.
func TestBytesLeavesWriter(t *testing.T) {
	for _, high := range bothOrders {
		w, text := NewWriter(high), ""
		for i := range 40 {
			n := i / 3 % 2
			if err := w.Put(n, 1); err != nil {
				t.Fatal(err)
			}
			text += plainBits(n, 1, high)
			checkWriter(t, w, text, high)
			checkWriter(t, w, text, high)
		}
	}
}

func TestWriterInAnyOrder(t *testing.T) {
	seed := uint64(1)
	for _, high := range bothOrders {
		for range 300 {
			w, text := NewWriter(high), ""
			for range pick(&seed, 60) {
				switch pick(&seed, 6) {
				case 0:
					w.Align()
					text = plainFill(text, high)
				case 1:
					if err := w.Put(pick(&seed, 9)-10, pick(&seed, 33)); err != api.ErrRange {
						t.Fatal(err)
					}
				default:
					count := pick(&seed, 33)
					n := pick(&seed, 1<<31) * 3 % (1 << count)
					if err := w.Put(n, count); err != nil {
						t.Fatal(err)
					}
					text += plainBits(n, count, high)
				}
				checkWriter(t, w, text, high)
			}
		}
	}
}

// A begun byte that Align or Bytes ends must not cost what is written already.
func TestWriterOfMany(t *testing.T) {
	const many = 1 << 19
	for _, high := range bothOrders {
		w := NewWriter(high)
		for range many {
			if err := w.Put(1, 1); err != nil {
				t.Fatal(err)
			}
			w.Align()
		}
		want := map[bool]byte{false: 0x01, true: 0xff}[high]
		if b := w.Bytes(); w.Len() != 8*many || !bytes.Equal(b, bytes.Repeat([]byte{want}, many)) {
			t.Errorf("high %v: %d bits", high, w.Len())
		}
	}
}

func TestNilWriter(t *testing.T) {
	var w *Writer
	for count := range 33 {
		for _, n := range []int{0, 1, -1, 1 << 32, math.MaxInt} {
			if err := w.Put(n, count); err != api.ErrRange {
				t.Error(n, count, err)
			}
		}
	}
	for _, count := range wild {
		if err := w.Put(0, count); err != api.ErrRange {
			t.Error(count, err)
		}
	}
	w.Align()
	if b := w.Bytes(); len(b) != 0 || w.High() || w.Len() != 0 {
		t.Error(b, w.High(), w.Len())
	}
}

// P3.1: readers

// checkReader holds a reader against the number of bits that it has, and of those that were read.
func checkReader(t *testing.T, r *Reader, at, all int) {
	t.Helper()
	if r.At() != at || r.Left() != all-at {
		t.Fatalf("%d read and %d left, want %d of %d", r.At(), r.Left(), at, all)
	}
}

func TestTakeKnown(t *testing.T) {
	type take [2]int
	for _, x := range []struct {
		in    string
		high  bool
		takes []take // how many bits, and the number
	}{
		{"\x0d", false, []take{{3, 5}, {1, 1}, {4, 0}}},
		{"\xbf", true, []take{{3, 5}, {1, 1}, {4, 15}}},
		{"\x34\x12", false, []take{{16, 0x1234}}},
		{"\x12\x34", true, []take{{16, 0x1234}}},
		{"\x12\x34", true, []take{{4, 1}, {8, 0x23}, {0, 0}, {4, 4}, {0, 0}}},
		{"\x12\x34", false, []take{{4, 2}, {8, 0x41}, {0, 0}, {4, 3}, {0, 0}}},
		{"\x78\x56\x34\x12", false, []take{{32, 0x12345678}}},
		{"\x12\x34\x56\x78", true, []take{{32, 0x12345678}}},
		{"\x80\x67\x45\x23\x01", false, []take{{4, 0}, {32, 0x12345678}, {4, 0}}},
		{"\x01\x23\x45\x67\x8f", true, []take{{4, 0}, {32, 0x12345678}, {4, 15}}},
		{"\xff\xff\xff\xff", false, []take{{32, 1<<32 - 1}}},
		{"\xff\xff\xff\xff", true, []take{{32, 1<<32 - 1}}},
		{"", false, []take{{0, 0}}},
		{"", true, []take{{0, 0}}},
	} {
		r, at := NewReader([]byte(x.in), x.high), 0
		for _, take := range x.takes {
			if n, err := r.Take(take[0]); n != take[1] || err != nil {
				t.Errorf("%x, high %v, %d bits at %d: %x %v, want %x", x.in, x.high, take[0], at, n, err, take[1])
			}
			at += take[0]
			checkReader(t, r, at, 8*len(x.in))
		}
		if n, err := r.Take(1); n != 0 || err != api.ErrEnd {
			t.Errorf("%x: behind its end %d %v", x.in, n, err)
		}
	}
}

func TestTakeEveryCountAndPlace(t *testing.T) {
	for _, high := range bothOrders {
		for _, in := range [][]byte{noise(7), []byte("\x9b\x1e\xd7\x42\x6c\xa5\x38"), bytes.Repeat([]byte{0xff}, 7), make([]byte, 7)} {
			text := plainText(in, high)
			for from := range 25 {
				for count := range 33 {
					r := NewReader(in, high)
					if n, err := r.Take(from); n != plainNumber(text[:from], high) || err != nil {
						t.Fatal(from, n, err)
					}
					checkReader(t, r, from, 56)
					n, err := r.Take(min(count, 56-from))
					if end := min(from+count, 56); n != plainNumber(text[from:end], high) || err != nil {
						t.Fatalf("high %v, %x: %d bits at %d are %x, %v", high, in, count, from, n, err)
					}
					checkReader(t, r, min(from+count, 56), 56)
				}
			}
		}
	}
}

func TestTakeRefuses(t *testing.T) {
	for _, high := range bothOrders {
		for size := range 6 {
			for from := range min(33, 8*size+1) {
				r := NewReader(noise(size), high)
				if _, err := r.Take(from); err != nil {
					t.Fatal(err)
				}
				refuse := func(count int, want error) {
					t.Helper()
					if n, err := r.Take(count); n != 0 || err != want {
						t.Fatalf("%d bits at %d of %d: %d %v, want %v", count, from, 8*size, n, err, want)
					}
					checkReader(t, r, from, 8*size)
				}
				for _, count := range wild {
					refuse(count, api.ErrRange)
				}
				for count := 8*size - from + 1; count <= 32; count++ {
					refuse(count, api.ErrEnd)
				}
				// What is left can still be read.
				rest := min(32, 8*size-from)
				if n, err := r.Take(rest); n != plainNumber(plainText(noise(size), high)[from:from+rest], high) || err != nil {
					t.Fatal(from, rest, n, err)
				}
			}
		}
	}
}

func TestAlignOfReader(t *testing.T) {
	in := []byte("\x9b\x1e\xd7\x42\x6c")
	for _, high := range bothOrders {
		for from := range 33 {
			r := NewReader(in, high)
			if _, err := r.Take(from); err != nil {
				t.Fatal(err)
			}
			at := (from + 7) / 8 * 8
			for range 2 { // a second one finds no begun byte
				r.Align()
				checkReader(t, r, at, 40)
			}
			if n, err := r.Take(8); n != int(in[at/8]) || err != nil {
				t.Fatalf("%d: %x %v", from, n, err)
			}
		}
		for size := range 3 { // at the end nothing is left to be read
			r := NewReader(in[:size], high)
			if _, err := r.Take(8 * size); err != nil {
				t.Fatal(err)
			}
			r.Align()
			checkReader(t, r, 8*size, 8*size)
		}
	}
}

func TestReaderInAnyOrder(t *testing.T) {
	seed := uint64(2)
	for _, high := range bothOrders {
		for size := range 200 {
			in := noise(size)
			r, text, at := NewReader(in, high), plainText(in, high), 0
			for range 30 {
				count := pick(&seed, 33)
				switch pick(&seed, 6) {
				case 0:
					r.Align()
					at = (at + 7) / 8 * 8
				case 1:
					if n, err := r.Take(wild[count%len(wild)]); n != 0 || err != api.ErrRange {
						t.Fatal(n, err)
					}
				default:
					n, err := r.Take(count)
					if at+count > len(text) {
						if n != 0 || err != api.ErrEnd {
							t.Fatal(at, count, n, err)
						}
						break
					}
					if n != plainNumber(text[at:at+count], high) || err != nil {
						t.Fatal(at, count, n, err)
					}
					at += count
				}
				checkReader(t, r, at, len(text))
			}
		}
	}
}

func TestNilReader(t *testing.T) {
	var r *Reader
	for count := range 33 {
		if n, err := r.Take(count); n != 0 || err != api.ErrEnd {
			t.Error(count, n, err)
		}
	}
	for _, count := range wild {
		if n, err := r.Take(count); n != 0 || err != api.ErrRange {
			t.Error(count, n, err)
		}
	}
	r.Align()
	if r.At() != 0 || r.Left() != 0 {
		t.Error(r.At(), r.Left())
	}
	for _, high := range bothOrders { // a reader of no bytes at all is one
		for _, in := range [][]byte{nil, {}} {
			r := NewReader(in, high)
			r.Align()
			if n, err := r.Take(0); n != 0 || err != nil || r.At() != 0 || r.Left() != 0 {
				t.Error(n, err, r.At(), r.Left())
			}
		}
	}
}

// P3.2

func TestWrittenIsRead(t *testing.T) {
	type step struct{ n, count int } // a count of -1: Align
	seed := uint64(3)
	for _, high := range bothOrders {
		for range 500 {
			w := NewWriter(high)
			var steps []step
			for range pick(&seed, 80) {
				count := pick(&seed, 34) - 1
				if count < 0 {
					w.Align()
					steps = append(steps, step{0, -1})
					continue
				}
				n := edges(count)[pick(&seed, 8)]
				if pick(&seed, 2) == 0 {
					n = pick(&seed, 1<<31) * 5 % (1 << count)
				}
				if err := w.Put(n, count); err != nil {
					t.Fatal(err)
				}
				steps = append(steps, step{n, count})
			}
			r := NewReader(w.Bytes(), high)
			for _, s := range steps {
				if s.count < 0 {
					r.Align()
					continue
				}
				if n, err := r.Take(s.count); n != s.n || err != nil {
					t.Fatalf("high %v: %d bits are %x %v, want %x", high, s.count, n, err, s.n)
				}
			}
			if r.At() != w.Len() {
				t.Fatalf("high %v: %d read, %d written", high, r.At(), w.Len())
			}
			// Behind what was written stands what fills the byte.
			fill := map[bool]int{false: 0, true: 1<<r.Left() - 1}[high]
			if n, err := r.Take(r.Left()); n != fill || err != nil {
				t.Fatalf("high %v: filled with %x %v", high, n, err)
			}
		}
	}
}

// Numbers as Take splits bytes are those as Put joins them, whatever the counts.
func TestReadIsWritten(t *testing.T) {
	seed := uint64(4)
	for _, high := range bothOrders {
		for size := range 100 {
			in := noise(size)
			r, w := NewReader(in, high), NewWriter(high)
			for r.Left() > 0 {
				count := pick(&seed, min(32, r.Left())+1)
				n, err := r.Take(count)
				if err := errors.Join(err, w.Put(n, count)); err != nil {
					t.Fatal(err)
				}
			}
			if !bytes.Equal(w.Bytes(), in) || w.Len() != 8*size {
				t.Errorf("high %v: %x became %x", high, in, w.Bytes())
			}
		}
	}
}

// P3.1, P3.3: stuffed bytes

// shortTexts is all texts of up to five of these bytes.
func shortTexts() [][]byte {
	out := [][]byte{{}}
	for from := 0; len(out[from]) < 5; from++ {
		for _, x := range []byte{0, 1, 0x7f, 0xd0, 0xfe, 0xff} {
			out = append(out, append(slices.Clone(out[from]), x))
		}
	}
	return out
}

// stuffTexts is ordinary texts, and those at the edges.
func stuffTexts() [][]byte {
	out := append(shortTexts(), nil, bytes.Repeat([]byte{0xff}, 1000), bytes.Repeat([]byte{0xff, 0}, 1000), make([]byte, 1000), []byte("plain"))
	for x := range 256 {
		out = append(out, []byte{byte(x)}, []byte{0xff, byte(x)}, []byte{byte(x), 0xff}, []byte{0xff, 0, byte(x)})
	}
	for n := range 300 {
		out = append(out, noise(n))
	}
	return append(out, noise(1<<20))
}

// plainUnstuff is Unstuff by the first ff at fault: what is before it, without the 00.
func plainUnstuff(b []byte) ([]byte, int) {
	end := len(b)
	for i := len(b) - 1; i >= 0; i-- {
		if b[i] == 0xff && (i+1 == len(b) || b[i+1] != 0) {
			end = i
		}
	}
	return bytes.ReplaceAll(b[:end], []byte{0xff, 0}, []byte{0xff}), end
}

func TestStuff(t *testing.T) {
	for _, x := range []struct{ in, want string }{{"", ""}, {"\xff", "\xff\x00"}, {"\x00", "\x00"}, {"\xff\x00", "\xff\x00\x00"}, {"\xff\xff", "\xff\x00\xff\x00"}, {"\xff\xd9", "\xff\x00\xd9"}, {"a\xfeb", "a\xfeb"}, {"\x01\xff\xff\x00", "\x01\xff\x00\xff\x00\x00"}} {
		if s := Stuff([]byte(x.in)); string(s) != x.want {
			t.Errorf("%x: %x, want %x", x.in, s, x.want)
		}
	}
	for _, b := range stuffTexts() {
		if s := Stuff(b); !bytes.Equal(s, bytes.ReplaceAll(b, []byte{0xff}, []byte{0xff, 0})) {
			t.Fatalf("%.20x: %.20x", b, s)
		}
	}
}

func TestUnstuff(t *testing.T) {
	for _, x := range []struct {
		in, want string
		n        int
	}{
		{"", "", 0}, {"\xff", "", 0}, {"\xff\x00", "\xff", 2}, {"\xff\x00\xff", "\xff", 2}, {"\xff\xff\x00", "", 0}, {"\xff\x00\x00", "\xff\x00", 3},
		{"\x01\xff\x00\xff\xd9", "\x01\xff", 3}, {"\x01\xff\xd9\xff\x00", "\x01", 1}, {"\x00", "\x00", 1}, {"a\xfe\x00b", "a\xfe\x00b", 4}, {"ab\xff\x01c", "ab", 2}, {"a\xff\xff\xd0b", "a", 1},
	} {
		if u, n := Unstuff([]byte(x.in)); string(u) != x.want || n != x.n {
			t.Errorf("%x: %x %d, want %x %d", x.in, u, n, x.want, x.n)
		}
	}
	for _, b := range stuffTexts() {
		u, n := Unstuff(b)
		if want, end := plainUnstuff(b); !bytes.Equal(u, want) || n != end {
			t.Fatalf("%.20x: %.20x %d, want %.20x %d", b, u, n, want, end)
		}
	}
}

func TestStuffUnstuff(t *testing.T) {
	for _, b := range stuffTexts() {
		s := Stuff(b)
		if u, n := Unstuff(s); !bytes.Equal(u, b) || n != len(s) {
			t.Fatalf("%.20x: back as %.20x, %d of %d", b, u, n, len(s))
		}
		for i, x := range s {
			if x == 0xff && (i+1 == len(s) || s[i+1] != 0) {
				t.Fatalf("%.20x: stuffed %.20x has a bare ff at %d", b, s, i)
			}
		}
		for _, end := range []string{"\xff", "\xff\xd9", "\xff\xd0ab", "\xff\xff\xd0", "\xff\xff\x00"} {
			if u, n := Unstuff(append(slices.Clone(s), end...)); !bytes.Equal(u, b) || n != len(s) {
				t.Fatalf("%.20x with %x: back as %.20x, %d of %d", b, end, u, n, len(s))
			}
		}
	}
}

// Many pieces of one text, each ended by an ff at fault, must not cost the rest of the text each.
func TestUnstuffPieces(t *testing.T) {
	all := bytes.Repeat([]byte{1, 0xff, 0xd0}, 1<<18)
	pieces := 0
	for rest := all; len(rest) > 0; rest = rest[3:] {
		if u, n := Unstuff(rest); n != 1 || len(u) != 1 || u[0] != 1 || cap(u) > 64 {
			t.Fatal(u, n, cap(u))
		}
		pieces++
	}
	if pieces != 1<<18 {
		t.Error(pieces)
	}
}

// P3.4

// spoil writes over bytes, and over the room behind them.
func spoil(b []byte) {
	b = b[:cap(b)]
	for i := range b {
		b[i] ^= 0x5a
	}
}

func TestReaderKeepsCopy(t *testing.T) {
	for _, high := range bothOrders {
		for size := range 20 {
			in, held := noise(size), noise(size)
			r := NewReader(in, high)
			spoil(in)
			w := NewWriter(high)
			for r.Left() > 0 {
				n, err := r.Take(min(5, r.Left()))
				if err := errors.Join(err, w.Put(n, min(5, 8*size-w.Len()))); err != nil {
					t.Fatal(err)
				}
			}
			if !bytes.Equal(w.Bytes(), held) {
				t.Errorf("high %v: %x read, want %x", high, w.Bytes(), held)
			}
		}
	}
}

func TestBytesAreNew(t *testing.T) {
	for _, high := range bothOrders {
		for count := range 70 {
			w, text := NewWriter(high), ""
			for i := range count {
				if err := w.Put(i/2%2, 1); err != nil {
					t.Fatal(err)
				}
				text += plainBits(i/2%2, 1, high)
			}
			first, second := w.Bytes(), w.Bytes()
			spoil(first)
			if !bytes.Equal(second, plainBytes(text, high)) {
				t.Fatalf("high %v, %d bits: two answers share memory", high, count)
			}
			checkWriter(t, w, text, high)
			// Nor is there writing into what was handed out.
			held := slices.Clone(second[:cap(second)])
			if err := w.Put(0x12345678, 32); err != nil {
				t.Fatal(err)
			}
			w.Align()
			if !bytes.Equal(second[:cap(second)], held) {
				t.Fatalf("high %v, %d bits: written into an answer", high, count)
			}
		}
	}
}

func TestStuffIsNew(t *testing.T) {
	for _, in := range [][]byte{nil, {}, []byte("plain"), []byte("a\xff\x00b\xff\x00"), []byte("\xff\xd9"), noise(100), make([]byte, 50)} {
		for _, f := range []func([]byte) []byte{Stuff, func(b []byte) []byte { u, _ := Unstuff(b); return u }} {
			room := append(slices.Clone(in), bytes.Repeat([]byte{0xff, 0, 7}, 50)...) // what is behind the argument stays too
			held := slices.Clone(room)
			b := room[:len(in)]
			first, second := f(b), f(b)
			if !bytes.Equal(room, held) || !bytes.Equal(first, second) {
				t.Fatalf("%x: written over the argument, or not the same again", in)
			}
			kept := slices.Clone(second)
			spoil(first)
			if !bytes.Equal(room, held) || !bytes.Equal(second, kept) {
				t.Fatalf("%x: an answer shares memory", in)
			}
			spoil(b)
			if !bytes.Equal(second, kept) {
				t.Fatalf("%x: an answer shares memory with the argument", in)
			}
		}
	}
}

// Writers and readers hold what is theirs alone.
func TestApart(t *testing.T) {
	low, high := NewWriter(false), NewWriter(true)
	if err := errors.Join(low.Put(5, 3), high.Put(1, 9), low.Put(1, 1)); err != nil {
		t.Fatal(err)
	}
	checkWriter(t, low, "1011", false)
	checkWriter(t, high, "000000001", true)
	in := []byte("\x9b\x1e")
	first, second := NewReader(in, true), NewReader(in, true)
	if n, err := first.Take(12); n != 0x9b1 || err != nil {
		t.Fatal(n, err)
	}
	checkReader(t, first, 12, 16)
	checkReader(t, second, 0, 16)
}
