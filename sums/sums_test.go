package sums

import (
	"bytes"
	"errors"
	"hash/adler32"
	"hash/crc32"
	"math"
	"slices"
	"testing"

	"burnish/api"
)

// noise is n bytes of no pattern, the same each time.
func noise(n int) []byte {
	out := make([]byte, n)
	x := uint32(n + 1)
	for i := range out {
		x = x*1664525 + 1013904223
		out[i] = byte(x >> 24)
	}
	return out
}

// texts is ordinary texts, and those at the edges.
func texts() [][]byte {
	out := [][]byte{nil, {}, []byte("a"), []byte("abc"), []byte("123456789"), []byte("Wikipedia"), {0}, {255}, make([]byte, 70000), bytes.Repeat([]byte{255}, 70000)}
	for x := range 256 {
		out = append(out, []byte{byte(x)}, []byte{255, byte(x)})
	}
	for n := range 40 {
		out = append(out, noise(n))
	}
	// The first one's a goes from 65520 to 0, the other two's from 65520 past it.
	edge := append(bytes.Repeat([]byte{255}, 256), 239)
	return append(out, append(slices.Clone(edge), 1), append(slices.Clone(edge), 2), append(slices.Clone(edge), 255), edge, noise(1<<20))
}

// plainCrc is the CRC, step by step as the document defines it.
func plainCrc(text []byte) int {
	register := uint32(0xffffffff)
	for _, x := range text {
		register ^= uint32(x)
		for range 8 {
			if register&1 == 1 {
				register = register>>1 ^ 0xedb88320
			} else {
				register >>= 1
			}
		}
	}
	return int(^register)
}

// plainAdler is the Adler sum without the modulus till the end, for texts that are short enough for it.
func plainAdler(text []byte) int {
	a, b := uint64(1), uint64(0)
	for _, x := range text {
		a += uint64(x)
		b += a
	}
	return int(65536*(b%65521) + a%65521)
}

// P1.1

func TestCrcKnown(t *testing.T) {
	for _, x := range []struct {
		text string
		want int
	}{{"", 0}, {"123456789", 3421780262}, {"IEND", 0xae426082}, {"a", 0xe8b7be43}, {"\x00", 0xd202ef8d}, {"\xff\xff\xff\xff", 0xffffffff}, {"The quick brown fox jumps over the lazy dog", 0x414fa339}} {
		if n := Crc([]byte(x.text)); n != x.want {
			t.Errorf("%q: %x, want %x", x.text, n, x.want)
		}
	}
	if n := Crc(); n != 0 {
		t.Errorf("no parts: %x", n)
	}
}

func TestCrcOfTexts(t *testing.T) {
	for _, text := range texts() {
		n := Crc(text)
		if n != plainCrc(text) || n != int(crc32.ChecksumIEEE(text)) {
			t.Errorf("%d bytes: %x, want %x", len(text), n, plainCrc(text))
		}
	}
}

func TestAdlerKnown(t *testing.T) {
	for _, x := range []struct {
		text string
		want int
	}{{"", 1}, {"Wikipedia", 300286872}, {"a", 0x620062}, {"\x00", 0x10001}, {"123456789", 0x91e01de}} {
		if n := Adler([]byte(x.text)); n != x.want {
			t.Errorf("%q: %x, want %x", x.text, n, x.want)
		}
	}
	if n := Adler(); n != 1 {
		t.Errorf("no parts: %x", n)
	}
}

func TestAdlerOfTexts(t *testing.T) {
	for _, text := range texts() {
		n := Adler(text)
		if n != plainAdler(text) || n != int(adler32.Checksum(text)) {
			t.Errorf("%d bytes: %x, want %x", len(text), n, plainAdler(text))
		}
	}
}

func TestAdlerIsReduced(t *testing.T) {
	edge := append(bytes.Repeat([]byte{255}, 256), 239)
	if a := Adler(edge) & 0xffff; a != 65520 {
		t.Fatalf("the edge isn't one: %d", a)
	}
	for add, want := range map[byte]int{0: 65520, 1: 0, 2: 1, 255: 254} {
		if a := Adler(edge, []byte{add}) & 0xffff; a != want {
			t.Errorf("%d: %d, want %d", add, a, want)
		}
	}
}

func TestJoin(t *testing.T) {
	list := texts()
	for i, first := range list {
		for _, second := range [][]byte{nil, list[(i+1)%len(list)], list[(i*7+3)%len(list)], noise(300), bytes.Repeat([]byte{255}, 65521)} {
			if n, want := Join(Adler(first), Adler(second), len(second)), Adler(first, second); n != want {
				t.Errorf("%d and %d bytes: %x, want %x", len(first), len(second), n, want)
			}
		}
	}
}

// A first text whose a is 0 makes what the second one's bytes add negative.
func TestJoinBehindNought(t *testing.T) {
	first := append(bytes.Repeat([]byte{255}, 256), 240)
	if Adler(first)&0xffff != 0 {
		t.Fatal("a isn't 0")
	}
	for _, n := range []int{0, 1, 2, 1000, 65520, 65521, 65522} {
		for _, second := range [][]byte{make([]byte, n), noise(n)} {
			if got, want := Join(Adler(first), Adler(second), n), Adler(first, second); got != want {
				t.Errorf("%d: %x, want %x", n, got, want)
			}
		}
	}
}

// Of n bytes 0, a is 1 and b is n; behind a text each adds the text's a to b.
func TestJoinLong(t *testing.T) {
	for _, first := range [][]byte{nil, []byte("Wikipedia"), bytes.Repeat([]byte{255}, 4000)} {
		for _, n := range []int{1 << 20, 1<<30 - 1, 1 << 30} {
			sum := Adler(first)
			a, b := sum%65536, sum/65536
			want := (b+n*a)%65521*65536 + a
			if got := Join(sum, n%65521*65536+1, n); got != want {
				t.Errorf("%d: %x, want %x", n, got, want)
			}
		}
	}
}

func TestJoinOfAnything(t *testing.T) {
	wild := []int{math.MinInt, math.MinInt + 1, -1 << 32, -65522, -65521, -1, 0, 1, 65520, 65521, 65535, 1 << 30, 1<<32 - 1, 1 << 32, math.MaxInt - 1, math.MaxInt}
	for _, a := range wild {
		for _, b := range wild {
			for _, n := range wild {
				if Join(a, b, n) != Join(a, b, n) {
					t.Errorf("%d %d %d: not the same again", a, b, n)
				}
			}
		}
	}
}

func TestPut(t *testing.T) {
	for _, x := range []struct {
		size, n int
		want    string
	}{
		{1, 0, "\x00"}, {1, 1, "\x01"}, {1, 255, "\xff"},
		{2, 0, "\x00\x00"}, {2, 255, "\x00\xff"}, {2, 256, "\x01\x00"}, {2, 0x1234, "\x12\x34"}, {2, 65535, "\xff\xff"},
		{3, 0, "\x00\x00\x00"}, {3, 65536, "\x01\x00\x00"}, {3, 0x123456, "\x12\x34\x56"}, {3, 1<<24 - 1, "\xff\xff\xff"},
		{4, 0, "\x00\x00\x00\x00"}, {4, 1 << 24, "\x01\x00\x00\x00"}, {4, 0x12345678, "\x12\x34\x56\x78"}, {4, 0xfedcba98, "\xfe\xdc\xba\x98"}, {4, 1<<32 - 1, "\xff\xff\xff\xff"},
	} {
		for _, out := range []string{"", "x", "before"} {
			b, err := Put([]byte(out), x.size, x.n)
			if string(b) != out+x.want || err != nil {
				t.Errorf("%q %d %d: %x %v", out, x.size, x.n, b, err)
			}
		}
		if b, err := Put(nil, x.size, x.n); string(b) != x.want || err != nil {
			t.Errorf("nil %d %d: %x %v", x.size, x.n, b, err)
		}
	}
}

func TestPutRefuses(t *testing.T) {
	for size := 1; size <= 4; size++ {
		for _, n := range []int{-1, -256, math.MinInt, 1 << (8 * size), 1<<(8*size) + 1, 1 << 32, 1 << 62, math.MaxInt} {
			if b, err := Put([]byte("x"), size, n); b != nil || !errors.Is(err, api.ErrRange) {
				t.Errorf("%d %d: %x %v", size, n, b, err)
			}
		}
	}
	for _, size := range wrongSizes {
		for _, n := range []int{0, 1, -1, 1 << 40, math.MinInt, math.MaxInt} { // the size comes first
			if b, err := Put([]byte("x"), size, n); b != nil || !errors.Is(err, api.ErrForm) {
				t.Errorf("%d %d: %x %v", size, n, b, err)
			}
		}
	}
}

var wrongSizes = []int{0, 5, 6, 8, 64, 1 << 61, math.MaxInt, -1, -4, -8, math.MinInt}

func TestTake(t *testing.T) {
	for _, x := range []struct {
		b    string
		size int
		want int
		rest string
	}{
		{"\x00", 1, 0, ""}, {"\xff", 1, 255, ""}, {"\x80\x01", 1, 128, "\x01"},
		{"\x12\x34", 2, 0x1234, ""}, {"\xff\xff\xff", 2, 65535, "\xff"},
		{"\x12\x34\x56", 3, 0x123456, ""}, {"\x00\x00\x01after", 3, 1, "after"},
		{"\xfe\xdc\xba\x98", 4, 0xfedcba98, ""}, {"\xff\xff\xff\xff\x00", 4, 1<<32 - 1, "\x00"},
	} {
		n, rest, err := Take([]byte(x.b), x.size)
		if n != x.want || string(rest) != x.rest || err != nil {
			t.Errorf("%x %d: %d %x %v", x.b, x.size, n, rest, err)
		}
	}
}

func TestTakeRefuses(t *testing.T) {
	for size := 1; size <= 4; size++ {
		for have := range size {
			if n, rest, err := Take(noise(have), size); n != 0 || rest != nil || !errors.Is(err, api.ErrEnd) {
				t.Errorf("%d of %d: %d %x %v", have, size, n, rest, err)
			}
		}
		if n, rest, err := Take(nil, size); n != 0 || rest != nil || !errors.Is(err, api.ErrEnd) {
			t.Errorf("nil %d: %d %x %v", size, n, rest, err)
		}
	}
	for _, size := range wrongSizes {
		for _, b := range [][]byte{nil, {}, {1}, noise(9)} { // the size comes first
			if n, rest, err := Take(b, size); n != 0 || rest != nil || !errors.Is(err, api.ErrForm) {
				t.Errorf("%x %d: %d %x %v", b, size, n, rest, err)
			}
		}
	}
}

// P1.2

func TestSumsOfParts(t *testing.T) {
	for _, text := range [][]byte{nil, []byte("a"), []byte("123456789"), noise(30), bytes.Repeat([]byte{255}, 600)} {
		crc, adler := Crc(text), Adler(text)
		for i := range len(text) + 1 {
			for j := i; j <= len(text); j += 1 + len(text)/40 {
				parts := [][]byte{text[:i], nil, text[i:j], {}, text[j:]}
				if Crc(parts...) != crc || Adler(parts...) != adler {
					t.Fatalf("%d bytes, divided at %d and %d", len(text), i, j)
				}
			}
		}
	}
}

func TestSumsOfSingleBytes(t *testing.T) {
	text := append(noise(5000), bytes.Repeat([]byte{255}, 5000)...)
	var parts [][]byte
	for i := range text {
		parts = append(parts, text[i:i+1])
	}
	if Crc(parts...) != Crc(text) || Adler(parts...) != Adler(text) {
		t.Error("byte by byte")
	}
	if Crc(nil, nil, nil) != Crc() || Adler(nil, nil, nil) != Adler() {
		t.Error("empty parts")
	}
}

// P1.3

func TestTakePut(t *testing.T) {
	for size := 1; size <= 4; size++ {
		most := 1<<(8*size) - 1
		pace := 1 + most/70000
		for n := 0; n <= most; n += pace {
			checkTakePut(t, size, n)
		}
		checkTakePut(t, size, most)
	}
}

func checkTakePut(t *testing.T, size, n int) {
	t.Helper()
	b, err := Put(nil, size, n)
	if err != nil || len(b) != size {
		t.Fatalf("%d %d: %x %v", size, n, b, err)
	}
	if got, rest, err := Take(append(b, "rest"...), size); got != n || string(rest) != "rest" || err != nil {
		t.Fatalf("%d %d: %d %x %v", size, n, got, rest, err)
	}
}

func TestTakeOneByOne(t *testing.T) {
	type number struct{ size, n int }
	list := []number{{4, 1<<32 - 1}, {1, 0}, {3, 70000}, {2, 300}, {1, 255}, {4, 7}, {3, 1<<24 - 1}, {2, 0}}
	var b []byte
	for _, x := range list {
		var err error
		if b, err = Put(b, x.size, x.n); err != nil {
			t.Fatal(x, err)
		}
	}
	for _, x := range list {
		n, rest, err := Take(b, x.size)
		if n != x.n || err != nil {
			t.Error(x, n, err)
		}
		b = rest
	}
	if len(b) != 0 {
		t.Errorf("left: %x", b)
	}
}

// P1.4

func TestPutLeavesOut(t *testing.T) {
	room := []byte("abcdefghij")
	for size := 1; size <= 4; size++ {
		for _, n := range []int{1, -1, 1 << 40} {
			Put(room[:3], size, n)
		}
	}
	if string(room) != "abcdefghij" {
		t.Errorf("the room behind out was written: %q", room)
	}
	b, err := Put(room[:3], 2, 0x4142)
	if err != nil {
		t.Fatal(err)
	}
	c, err := Put(room[:3], 2, 0x4344)
	if err != nil {
		t.Fatal(err)
	}
	room[0], room[3] = 'x', 'y'
	if string(b) != "abcAB" || string(c) != "abcCD" {
		t.Errorf("the results share memory: %q %q", b, c)
	}
	b[1], b[4] = 'p', 'q'
	if string(room) != "xbcyefghij" || string(c) != "abcCD" {
		t.Errorf("a result shares memory: %q %q", room, c)
	}
}

func TestTakeLeavesBytes(t *testing.T) {
	b := []byte("\x01\x02rest of it")
	_, rest, err := Take(b[:6], 2)
	if err != nil {
		t.Fatal(err)
	}
	rest[0] = 'R'
	rest = append(rest, "!!!!"...)
	if string(b) != "\x01\x02rest of it" {
		t.Errorf("written: %q", b)
	}
	b[3] = 'E'
	if string(rest) != "Rest!!!!" {
		t.Errorf("shared: %q", rest)
	}
	_, none, err := Take(b[:2], 2)
	if err != nil {
		t.Fatal(err)
	}
	if _ = append(none, "none"...); string(b) != "\x01\x02rEst of it" {
		t.Errorf("written behind the number: %q", b)
	}
}

func TestSumsLeaveParts(t *testing.T) {
	parts := [][]byte{noise(100), nil, []byte("abc")}
	held := [][]byte{noise(100), nil, []byte("abc")}
	crc, adler := Crc(parts...), Adler(parts...)
	if len(parts) != 3 || parts[1] != nil {
		t.Error("the list of parts was written")
	}
	for i := range held {
		if !bytes.Equal(parts[i], held[i]) {
			t.Errorf("part %d was written", i)
		}
	}
	if Crc(parts...) != crc || Adler(parts...) != adler {
		t.Error("not the same again")
	}
	parts[0][0]++
	if Crc(parts...) == crc || Adler(parts...) == adler {
		t.Error("a change of a part changes nothing")
	}
}
