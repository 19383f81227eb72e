package inflate

import (
	"bytes"
	"compress/flate"
	"encoding/hex"
	"slices"
	"strings"
	"testing"

	"burnish/api"
)

// check holds what is answered for packed bytes against what they should be.
func check(t *testing.T, b []byte, most int, tokens []api.Token, read int, want error) {
	t.Helper()
	text, n, err := Inflate(b, most)
	if err != want || n != read || !bytes.Equal(text, plainExpand(tokens)) {
		t.Fatalf("%.80x with at most %d: %d bytes, %d read, %v; want %d, %d, %v", b, most, len(text), n, err, len(plainExpand(tokens)), read, want)
	}
	list, err := Tokens(b, most)
	if err != want || !slices.Equal(list, tokens) {
		t.Fatalf("%.80x with at most %d: %d tokens, %v; want %d, %v", b, most, len(list), err, len(tokens), want)
	}
}

// checkPlain holds it against the plain reader.
func checkPlain(t *testing.T, b []byte, most int) error {
	t.Helper()
	tokens, read, err := plainInflate(b, most)
	check(t, b, most, tokens, read, err)
	return err
}

// checkCut holds bits that are refused with their last one: with any bits behind them they are, and before that one they aren't yet.
func checkCut(t *testing.T, text string, most int, want error) {
	t.Helper()
	for _, fill := range []string{"0", "1"} {
		b := plainBytes(text, fill)
		check(t, b, most, nil, 0, want)
		check(t, append(b, 0, 0xff, 0x55), most, nil, 0, want)
	}
	check(t, plainBytes(text[:(len(text)-1)/8*8], "0"), most, nil, 0, api.ErrEnd)
}

// letters is literals.
func letters(text string) []api.Token {
	var out []api.Token
	for _, x := range []byte(text) {
		out = append(out, api.Token{Dist: int(x)})
	}
	return out
}

// before is valid blocks that aren't the last, so that what follows stands at each place within a byte; with them, what they come to.
func before() ([]string, [][]api.Token) {
	var texts []string
	var tokens [][]api.Token
	for _, count := range []int{0, 1, 2, 3, 4, 5, 6, 7} {
		w := &written{}
		var list []api.Token
		for i := range count {
			// 3 bits, 7 for the end, and 9: an odd number.
			literal := []api.Token{{Dist: 200 + i}}
			w.fixed(0, literal)
			list = append(list, literal...)
		}
		texts, tokens = append(texts, w.text), append(tokens, list)
	}
	return texts, tokens
}

// simple is complete literal lengths: literals a and b, the end, and matches of 3 and of 11 or 12.
func simple() []int {
	return with(with(with(with(with(many(266, 0), 'a', 2), 'b', 2), 256, 2), 257, 3), 265, 3)
}

// P6.1: what is packed well

func TestKnown(t *testing.T) {
	for _, x := range []struct {
		in, want string
		read     int
	}{
		{"0300", "", 2},
		{"4b0400", "a", 3},
		{"010000ffff", "", 5},
		{"f90000ffff", "", 5}, // what is ignored needn't be 0
		{"010300fcff616263", "abc", 8},
		{"000100feff61010100feff62", "ab", 12},
		{"000000ffff0300", "", 7},
		{"000500faff61626162610300", "ababa", 12},
		{"4b4c4a4c4a0400", "ababa", 7},
		{"4b4c4a044300", "abababab", 6},
		{"4b4ca43d0000", strings.Repeat("a", 100), 6},
		{"4a8403c000", strings.Repeat("a", 10), 5},
	} {
		b, err := hex.DecodeString(x.in)
		if err != nil {
			t.Fatal(err)
		}
		if text, n, err := Inflate(b, 100); string(text) != x.want || n != x.read || err != nil {
			t.Errorf("%s: %q, %d read, %v; want %q, %d", x.in, text, n, err, x.want, x.read)
		}
		if err := checkPlain(t, b, 100); err != nil {
			t.Error(x.in, err)
		}
	}
}

func TestTokensKnown(t *testing.T) {
	for _, x := range []struct {
		in   string
		want []api.Token
	}{
		{"0300", nil},
		{"4b0400", letters("a")},
		{"010300fcff616263", letters("abc")},
		{"4b4c4a4c4a0400", letters("ababa")},
		{"4b4c4a044300", append(letters("aba"), api.Token{Len: 5, Dist: 2})},
		{"4b4ca43d0000", append(letters("aa"), api.Token{Len: 98, Dist: 1})},
	} {
		b, err := hex.DecodeString(x.in)
		if err != nil {
			t.Fatal(err)
		}
		if list, err := Tokens(b, 100); !slices.Equal(list, x.want) || err != nil {
			t.Errorf("%s: %v %v, want %v", x.in, list, err, x.want)
		}
	}
}

// All bytes as literals of kind 1, and all lengths and distances that a symbol begins or ends with.
func TestFixedWhole(t *testing.T) {
	var tokens []api.Token
	for n := range 256 {
		tokens = append(tokens, api.Token{Dist: n})
	}
	for range 130 {
		tokens = append(tokens, api.Token{Len: 258, Dist: 256})
	}
	for n := 3; n <= 258; n++ {
		tokens = append(tokens, api.Token{Len: n, Dist: n * 127})
	}
	for _, b := range plainDists() {
		tokens = append(tokens, api.Token{Len: 3, Dist: b.least}, api.Token{Len: 4, Dist: b.least + 1<<b.extra - 1})
	}
	w := &written{}
	w.fixed(1, tokens)
	check(t, plainBytes(w.text, "1"), api.MaxPlain, tokens, (len(w.text)+7)/8, nil)
}

// The length 258 may also stand as symbol 284 and the greatest number.
func TestLengthInTwoWays(t *testing.T) {
	codes := plainCodes(fixedLiterals())
	w := &written{}
	w.head(1, 1)
	w.text += codes['a'] + codes[284] + "11111" + "00000" + codes[285] + "00000" + codes[256]
	check(t, plainBytes(w.text, "0"), 600, append(letters("a"), api.Token{Len: 258, Dist: 1}, api.Token{Len: 258, Dist: 1}), 7, nil)
}

// someLengths is complete lengths of so many symbols, none above 15, with at least two codes.
func someLengths(seed *uint64, size int) []int {
	list := []int{1, 1}
	for range pick(seed, size-1) {
		if i := pick(seed, len(list)); list[i] < 15 {
			list[i]++
			list = append(list, list[i])
		}
	}
	out := make([]int, size)
	for _, length := range list {
		at := pick(seed, size)
		for out[at] > 0 {
			at = (at + 1) % size
		}
		out[at] = length
	}
	return out
}

// someLiterals is literal lengths that are complete, with a code for the end.
func someLiterals(seed *uint64) []int {
	for {
		if out := someLengths(seed, 257+pick(seed, 30)); out[256] > 0 {
			return out
		}
	}
}

// someDists is distance lengths: none, one of length 1, or complete ones.
func someDists(seed *uint64) []int {
	size := 1 + pick(seed, 30)
	switch kind := pick(seed, 6); {
	case kind == 0:
		return many(size, 0)
	case kind == 1 || size == 1:
		return with(many(size, 0), pick(seed, size), 1)
	}
	return someLengths(seed, size)
}

// someTokens is tokens that have codes, behind so many bytes, and how many bytes there are then.
func someTokens(seed *uint64, count, size int, literals, dists []int) ([]api.Token, int) {
	var out []api.Token
	lengthBases, distBases := plainLengths(), plainDists()
	for range 40 * count {
		symbol := pick(seed, min(len(literals), 286))
		if pick(seed, 3) == 0 && len(literals) > 257 {
			symbol = 257 + pick(seed, min(len(literals), 286)-257)
		}
		place := pick(seed, min(len(dists), 30))
		if len(out) == count || literals[symbol] == 0 || symbol == 256 {
			continue
		}
		if symbol < 256 {
			out = append(out, api.Token{Dist: symbol})
			size++
			continue
		}
		d, l := distBases[place], lengthBases[symbol-257]
		if dists[place] == 0 || d.least > size {
			continue
		}
		length := l.least + pick(seed, 1<<l.extra)
		if symbol == 284 && length == 258 {
			length = 257
		}
		out = append(out, api.Token{Len: length, Dist: min(size, d.least+pick(seed, 1<<d.extra))})
		size += length
	}
	return out, size
}

// somePacked is some blocks of all kinds, and their tokens.
func somePacked(seed *uint64) (*written, []api.Token) {
	w := &written{}
	var tokens []api.Token
	blocks, size := 1+pick(seed, 5), 0
	for i := range blocks {
		last := 0
		if i == blocks-1 {
			last = 1
		}
		count := pick(seed, 30)
		var list []api.Token
		switch pick(seed, 4) {
		case 0:
			list, size = someTokens(seed, count, size, many(256, 8), []int{0})
			w.stored(last, plainExpand(list))
		case 1:
			list, size = someTokens(seed, count, size, fixedLiterals(), many(32, 5))
			w.fixed(last, list)
		default:
			literals, dists := someLiterals(seed), someDists(seed)
			list, size = someTokens(seed, count, size, literals, dists)
			own := ownLengths()
			w.head(last, 2)
			w.sizes(len(literals), len(dists), own)
			w.runs(slices.Concat(literals, dists), own, seed)
			w.tokens(list, plainCodes(literals), plainCodes(dists))
			w.text += plainCodes(literals)[256]
		}
		tokens = append(tokens, list...)
	}
	return w, tokens
}

func TestWrittenIsRead(t *testing.T) {
	seed := uint64(1)
	matches := 0
	for i := range 400 {
		w, tokens := somePacked(&seed)
		for _, x := range tokens {
			matches += min(x.Len, 1)
		}
		size := len(plainExpand(tokens))
		b := plainBytes(w.text, "1")
		check(t, b, size, tokens, len(b), nil)
		check(t, b, api.MaxPlain, tokens, len(b), nil)
		if size > 0 {
			check(t, b, size-1, nil, 0, api.ErrTooLarge)
		}
		if i < 40 {
			for n := range len(b) {
				check(t, b[:n], size, nil, 0, api.ErrEnd)
			}
		}
	}
	if matches < 1000 {
		t.Error("only", matches)
	}
}

// Bytes that another packer wrote.
func TestOtherPacker(t *testing.T) {
	seed := uint64(2)
	texts := []string{"", "a", strings.Repeat("a", 70000), strings.Repeat("abcabcabd", 9000)}
	for range 12 {
		size := pick(&seed, 80000)
		var out strings.Builder
		for out.Len() < size {
			out.WriteString(strings.Repeat(string(rune('a'+pick(&seed, 26))), 1+pick(&seed, 3)))
			if pick(&seed, 9) == 0 {
				from := pick(&seed, out.Len())
				out.WriteString(out.String()[from:min(out.Len(), from+pick(&seed, 400))])
			}
		}
		texts = append(texts, out.String())
	}
	for _, text := range texts {
		for level := flate.HuffmanOnly; level <= flate.BestCompression; level++ {
			var b bytes.Buffer
			w, err := flate.NewWriter(&b, level)
			if err != nil {
				t.Fatal(err)
			}
			if _, err := w.Write([]byte(text)); err != nil || w.Close() != nil {
				t.Fatal(err)
			}
			if out, n, err := Inflate(b.Bytes(), len(text)); string(out) != text || n != b.Len() || err != nil {
				t.Errorf("level %d, %d bytes: %d, %d of %d read, %v", level, len(text), len(out), n, b.Len(), err)
			}
			list, err := Tokens(b.Bytes(), len(text))
			if err != nil || string(plainExpand(list)) != text {
				t.Errorf("level %d, %d bytes: %d tokens, %v", level, len(text), len(list), err)
			}
		}
	}
}

// zeros is the text of a run of 11 to 138 zeros.
func zeros(n int, codes map[int]string) string { return codes[18] + plainBits(n-11, 7) }

// shortHead is a block of kind 2 up to its lengths, where a sequence has all symbols.
func shortHead(literals, dists int) *written {
	w := &written{}
	w.head(1, 2)
	w.sizes(literals, dists, ownLengths())
	return w
}

// What repeats may go on from the literal lengths into the distance lengths.
func TestRunsAcross(t *testing.T) {
	codes := plainCodes(ownLengths())
	for _, x := range []struct {
		dists int
		rest  string // behind the literal lengths up to that of 256, which is 1; that of 257 is to be 1 too
		good  bool
	}{
		{1, codes[1] + codes[0], true},
		{1, codes[1] + codes[1], true},
		{2, codes[1] + codes[1] + codes[1], true},
		{2, codes[16] + plainBits(0, 2), true},
		{3, codes[16] + plainBits(0, 2) + codes[0], true},
		{3, codes[16] + plainBits(1, 2), false}, // three codes of length 1
		{30, codes[1] + zeros(30, codes), true},
		{10, codes[1] + codes[17] + plainBits(7, 3), true},
		{9, codes[1] + codes[0] + codes[16] + plainBits(3, 2) + codes[0] + codes[1], true},
	} {
		w := shortHead(258, x.dists)
		w.text += zeros(138, codes) + zeros(118, codes) + codes[1] + x.rest
		if !x.good {
			checkCut(t, w.text, 100, api.ErrMalformed)
			continue
		}
		w.text += "0" // the end
		check(t, plainBytes(w.text, "1"), 0, nil, (len(w.text)+7)/8, nil)
	}
	for _, last := range []int{19, 29 + 19, 29 + 30} {
		w := shortHead(286, 30)
		w.text += codes[0] + codes[1] + zeros(138, codes) + zeros(116, codes) + codes[1]
		// Zeros from the length of 257 on.
		w.text += zeros(last, codes)
		for range 29 + 30 - last {
			w.text += codes[0]
		}
		w.text += "0" + "1"
		check(t, plainBytes(w.text, "1"), 1, []api.Token{{Dist: 1}}, (len(w.text)+7)/8, nil)
	}
}

// Blocks begin where the one before ends, and the output of all is one.
func TestBlocksGoOn(t *testing.T) {
	match := api.Token{Len: 11, Dist: 4}
	for _, first := range []int{0, 1, 2} {
		w := &written{}
		switch first {
		case 0:
			w.stored(0, []byte("abab"))
		case 1:
			w.fixed(0, letters("abab"))
		case 2:
			w.dynamic(0, simple(), []int{1, 1}, letters("abab"))
		}
		w.fixed(0, []api.Token{match})
		w.stored(0, []byte("z"))
		w.dynamic(0, simple(), with(many(8, 0), 7, 1), []api.Token{{Len: 12, Dist: 16}})
		w.stored(0, nil)
		w.fixed(1, nil)
		want := slices.Concat(letters("abab"), []api.Token{match}, letters("z"), []api.Token{{Len: 12, Dist: 16}})
		check(t, plainBytes(w.text, "0"), 28, want, (len(w.text)+7)/8, nil)
		check(t, plainBytes(w.text, "0"), 27, nil, 0, api.ErrTooLarge)
	}
}

func TestStoredSizes(t *testing.T) {
	for _, size := range []int{0, 1, 2, 255, 256, 257, 65534, 65535} {
		text := slices.Repeat([]byte{7, 0xff, 0}, size/3+1)[:size]
		w := &written{}
		w.stored(0, text)
		w.stored(1, text)
		both := letters(string(text) + string(text))
		check(t, plainBytes(w.text, "0"), 2*size, both, 2*size+10, nil)
		if size > 0 {
			check(t, plainBytes(w.text, "0"), 2*size-1, nil, 0, api.ErrTooLarge)
		}
	}
}

// P6.1: errors

func TestMost(t *testing.T) {
	for _, most := range append([]int{-1, 1<<22 + 1, -1 << 22, 1<<32 + 5}, wild...) {
		for _, in := range []string{"", "\x03\x00", "\x07", "\x4b"} {
			check(t, []byte(in), most, nil, 0, api.ErrRange)
		}
		for _, tokens := range [][]api.Token{nil, letters("a"), {{Dist: 256}}, {{Len: 3, Dist: 1}}} {
			if b, err := Expand(tokens, most); len(b) != 0 || err != api.ErrRange {
				t.Error(most, tokens, b, err)
			}
		}
	}
	check(t, []byte{3, 0}, 0, nil, 2, nil)
	check(t, []byte{3, 0}, 1<<22, nil, 2, nil)
}

// The most that may be asked for comes out whole, and one byte more doesn't.
func TestMostWhole(t *testing.T) {
	const most = 1 << 22
	// 3 literals and 16256 matches of 258, and one of 253.
	tokens := append(letters("abc"), slices.Repeat([]api.Token{{Len: 258, Dist: 3}}, 16256)...)
	tokens = append(tokens, api.Token{Len: 253, Dist: 2})
	codes := plainCodes(fixedLiterals())
	body := codes['a'] + codes['b'] + codes['c'] + strings.Repeat(codes[285]+"00010", 16256) + codes[284] + plainBits(253-227, 5) + "00001"
	for more, want := range []error{nil, api.ErrTooLarge} {
		text := "110" + body + strings.Repeat(codes['x'], more) + codes[256]
		list, read := tokens, (len(text)+7)/8
		if want != nil {
			list, read = nil, 0
		}
		check(t, plainBytes(text, "0"), most, list, read, want)
	}
}

// fault is bits that are refused with the last one of them.
type fault struct {
	name string
	add  func(w *written)
}

// headFaults is faults in what blocks begin with.
func headFaults() []fault {
	out := []fault{
		{"kind 3", func(w *written) { w.head(0, 3) }},
		{"kind 3, last", func(w *written) { w.head(1, 3) }},
	}
	for _, size := range [][2]int{{3, 3}, {3, 0xfffd}, {3, 0xfefc}, {3, 0x7ffc}, {0, 0}, {0xffff, 0xffff}, {0xffff, 1}, {0x1234, 0xcbed}, {0, 0xfffe}} {
		out = append(out, fault{"complement", func(w *written) { w.head(1, 0); w.size(size[0], size[1]) }})
	}
	for _, n := range []int{30, 31} {
		out = append(out, fault{"literal lengths", func(w *written) { w.head(1, 2); w.number(n, 5) }})
		for _, literals := range []int{0, 29} {
			out = append(out, fault{"distance lengths", func(w *written) { w.head(1, 2); w.number(literals, 5); w.number(n, 5) }})
		}
	}
	own := ownLengths()
	for _, wrong := range [][]int{
		many(19, 0), with(many(19, 0), 0, 1), with(many(19, 0), 18, 1), with(many(19, 0), 15, 7), many(19, 1), many(19, 4), many(19, 5), many(19, 7),
		with(own, 3, 0), with(own, 3, 5), with(own, 3, 3), with(own, 18, 4), with(own, 15, 1), with(own, 15, 6), with(own, 16, 0),
		with(with(with(many(19, 0), 16, 1), 17, 1), 18, 1), with(with(many(19, 0), 16, 1), 17, 2),
	} {
		for _, sizes := range [][2]int{{257, 1}, {286, 30}} {
			out = append(out, fault{"code length lengths", func(w *written) { w.head(1, 2); w.sizes(sizes[0], sizes[1], wrong) }})
		}
	}
	return out
}

// sequenceFaults is faults within a sequence of lengths.
func sequenceFaults() []fault {
	own := ownLengths()
	codes := plainCodes(own)
	var out []fault
	// What a sequence has wrong at its end, behind some good lengths; it is to have so many.
	put := func(name string, literals, dists int, good []int, wrong string) {
		out = append(out, fault{name, func(w *written) {
			w.head(1, 2)
			w.sizes(literals, dists, own)
			w.lengths(good, own)
			w.text += wrong
		}})
	}
	put("16 first", 257, 1, nil, codes[16])
	put("16 first", 286, 30, nil, codes[16])
	// Literal lengths that are good, so that nothing but the length of the sequence is wrong.
	long := with(with(many(286, 0), 256, 1), 'a', 1)
	for _, x := range [][2]int{{3, 1}, {3, 2}, {4, 3}, {5, 4}, {6, 5}, {6, 1}} {
		put("too long by 16", 286, 30, slices.Concat(long, many(30-x[1], 0)), codes[16]+plainBits(x[0]-3, 2))
	}
	for _, x := range [][2]int{{3, 2}, {7, 6}, {10, 9}, {10, 1}} {
		put("too long by 17", 286, 30, slices.Concat(long, many(30-x[1], 0)), codes[17]+plainBits(x[0]-3, 3))
	}
	for _, x := range [][2]int{{11, 10}, {12, 11}, {31, 30}, {138, 30}, {138, 1}} {
		put("too long by 18", 286, 30, slices.Concat(long, many(30-x[1], 0)), codes[18]+plainBits(x[0]-11, 7))
	}
	put("too long at once", 257, 1, many(256, 0), codes[16]+plainBits(0, 2))
	return out
}

// bookFaults is literal lengths and distance lengths that make no books.
func bookFaults() []fault {
	own := ownLengths()
	var out []fault
	good := with(with(many(257, 0), 256, 1), 'a', 1)
	for _, literals := range [][]int{
		many(257, 0), many(286, 0), with(many(257, 0), 256, 1), with(many(257, 0), 0, 1), with(many(257, 0), 256, 12), // too few codes
		with(good, 'a', 2), with(good, 256, 2), with(good, 'b', 12), with(good, 'b', 1), many(257, 1), many(257, 8), many(286, 8), many(286, 9), // not complete, or not valid
		with(with(many(257, 0), 0, 1), 1, 1), with(many(257, 8), 256, 0), with(with(with(many(260, 0), 0, 1), 1, 2), 258, 2), // without the end
	} {
		out = append(out, fault{"literal lengths", func(w *written) {
			w.head(1, 2)
			w.sizes(len(literals), 2, own)
			w.lengths(literals, own) // refused before the distance lengths are there
		}})
	}
	for _, dists := range [][]int{
		{2}, {12}, {0, 2}, {0, 5, 0}, {3, 0, 0}, with(many(30, 0), 29, 2), // one code that is longer
		{2, 2}, {1, 2}, {2, 1, 0}, {1, 0, 12}, {2, 2, 2}, many(30, 5), many(15, 4), {1, 2, 3}, // not complete
		{1, 1, 1}, {1, 1, 12}, {1, 2, 2, 2}, many(30, 4), many(30, 1), {2, 2, 2, 2, 2}, // not valid
	} {
		out = append(out, fault{"distance lengths", func(w *written) {
			w.head(1, 2)
			w.sizes(257, len(dists), own)
			w.lengths(slices.Concat(good, dists), own)
		}})
	}
	return out
}

// symbolFaults is faults behind so many bytes.
func symbolFaults(size int) []fault {
	codes, dists := plainCodes(fixedLiterals()), plainCodes(many(32, 5))
	var out []fault
	fixed := func(name, text string) {
		out = append(out, fault{name, func(w *written) { w.head(1, 1); w.text += text }})
	}
	fixed("286", codes[286])
	fixed("287", codes[287])
	fixed("287 behind a literal", codes[0]+codes[287])
	for _, symbol := range []int{30, 31} {
		for _, length := range []string{codes[257], codes[265] + "1", codes[284] + "11111", codes[285]} {
			fixed("distance symbol", length+dists[symbol])
		}
	}
	for _, dist := range []int{1, 2, 3, 4, 5, 6, 7, 8, 9, 10, 11, 12, 13, 16, 17, 24, 25, 32, 33, 258, 32767, 32768} {
		w := &written{}
		w.dist(dist, dists)
		if dist > size {
			fixed("distance", codes[257]+w.text)
			fixed("distance", codes[285]+w.text)
		}
		if dist > size+4 {
			fixed("distance behind others", codes['q']+codes[257]+dists[0]+codes[264]+w.text)
		}
	}
	for _, x := range []struct {
		dists []int
		text  string // of a distance
	}{{[]int{0}, ""}, {many(30, 0), ""}, {[]int{1}, "1"}, {[]int{0, 1}, "1"}, {with(many(30, 0), 29, 1), "1"}} {
		for _, length := range []string{plainCodes(simple())[257], plainCodes(simple())[265] + "1"} {
			out = append(out, fault{"no such distance code", func(w *written) {
				w.head(1, 2)
				w.sizes(len(simple()), len(x.dists), ownLengths())
				w.lengths(slices.Concat(simple(), x.dists), ownLengths())
				w.text += length + x.text
			}})
		}
	}
	return out
}

// Each fault is one as soon as its last bit is read, wherever it stands, and whatever comes behind it.
func TestMalformed(t *testing.T) {
	texts, tokens := before()
	for i, text := range texts {
		for _, f := range slices.Concat(headFaults(), sequenceFaults(), bookFaults(), symbolFaults(len(tokens[i]))) {
			t.Run(f.name, func(t *testing.T) {
				w := &written{text}
				f.add(w)
				checkCut(t, w.text, 1000, api.ErrMalformed)
			})
		}
	}
}

// What comes behind a fault, or ends the bytes, is another fault only if the first one isn't there.
func TestFirstFault(t *testing.T) {
	texts, tokens := before()
	codes, dists := plainCodes(fixedLiterals()), plainCodes(many(32, 5))
	for i, text := range texts {
		size := len(tokens[i])
		for _, x := range []struct {
			name string
			most int
			want error
			add  func(w *written)
		}{
			{"literal", size, api.ErrTooLarge, func(w *written) { w.head(1, 1); w.text += codes['a'] }},
			{"second literal", size + 1, api.ErrTooLarge, func(w *written) { w.head(1, 1); w.text += codes['a'] + codes[255] }},
			{"match", size + 3, api.ErrTooLarge, func(w *written) { w.head(1, 1); w.text += codes['a'] + codes[257] + dists[0] }},
			{"match, extra bits", size + 200, api.ErrTooLarge, func(w *written) {
				w.head(1, 1)
				w.text += strings.Repeat(codes['a'], 20) + codes[284] + "00010" + dists[8] + "100" // 17 to 24 by 8 and three bits
			}},
			{"match of 258", size + 258, api.ErrTooLarge, func(w *written) { w.head(1, 1); w.text += codes['a'] + codes[285] + dists[0] }},
			{"stored", size + 2, api.ErrTooLarge, func(w *written) { w.head(1, 0); w.size(3, 0xfffc) }},
			{"stored, many", size + 65534, api.ErrTooLarge, func(w *written) { w.head(1, 0); w.size(65535, 0) }},
			{"own codes", size, api.ErrTooLarge, func(w *written) {
				w.dynamic(1, simple(), []int{0}, nil)
				w.text = w.text[:len(w.text)-len(plainCodes(simple())[256])] + plainCodes(simple())['b']
			}},

			{"far and too large", size, api.ErrMalformed, func(w *written) { w.head(1, 1); w.text += codes[257] + dists[29] + plainBits(0, 13) }},
			{"286 where nothing fits", size, api.ErrMalformed, func(w *written) { w.head(1, 1); w.text += codes[286] }},
			{"distance symbol 30 where nothing fits", size, api.ErrMalformed, func(w *written) { w.head(1, 1); w.text += codes[285] + dists[30] }},
			{"complement of too many", size, api.ErrMalformed, func(w *written) { w.head(1, 0); w.size(65535, 1) }},
			{"kind 3 where nothing fits", size, api.ErrMalformed, func(w *written) { w.head(1, 3) }},
		} {
			t.Run(x.name, func(t *testing.T) {
				w := &written{text}
				x.add(w)
				checkCut(t, w.text, x.most, x.want)
			})
		}
	}
}

// Cut anywhere, what is good has too few bytes, and nothing else wrong.
func TestEnd(t *testing.T) {
	check(t, nil, 0, nil, 0, api.ErrEnd)
	check(t, nil, 1<<22, nil, 0, api.ErrEnd)
	stored := &written{}
	stored.stored(0, []byte("abc"))
	stored.stored(1, []byte("defg"))
	one := &written{}
	one.fixed(0, append(letters("abc"), api.Token{Len: 20, Dist: 3}, api.Token{Len: 258, Dist: 23}))
	one.fixed(1, []api.Token{{Len: 3, Dist: 280}})
	two := &written{}
	two.dynamic(0, simple(), many(16, 4), append(letters("abba"), api.Token{Len: 12, Dist: 3}))
	two.dynamic(1, simple(), []int{0}, letters("a"))
	for _, w := range []*written{stored, one, two} {
		b := plainBytes(w.text, "0")
		if err := checkPlain(t, b, 300); err != nil {
			t.Error(err)
		}
		for n := range b {
			check(t, b[:n], 300, nil, 0, api.ErrEnd)
		}
	}
}

// P6.1: bits of no pattern, and good ones with some changed

func TestChanged(t *testing.T) {
	seed := uint64(3)
	counts := map[error]int{}
	for range 250 {
		w, tokens := somePacked(&seed)
		b := plainBytes(w.text, "0")
		for range 25 {
			bad := slices.Clone(b)
			for range 1 + pick(&seed, 3) {
				bad[pick(&seed, len(bad))] ^= 1 << pick(&seed, 8)
			}
			if pick(&seed, 3) == 0 {
				bad = bad[:pick(&seed, len(bad)+1)]
			}
			counts[checkPlain(t, bad, pick(&seed, 3)*len(plainExpand(tokens)))]++
		}
	}
	for _, err := range []error{nil, api.ErrMalformed, api.ErrEnd, api.ErrTooLarge} {
		if counts[err] < 100 {
			t.Error("only", counts[err], err)
		}
	}
}

func TestNoPattern(t *testing.T) {
	seed := uint64(4)
	for i := range 1 << 16 {
		checkPlain(t, []byte{byte(i), byte(i >> 8)}, 4)
	}
	for range 20000 {
		b := make([]byte, pick(&seed, 40))
		for i := range b {
			b[i] = byte(pick(&seed, 256))
		}
		checkPlain(t, b, pick(&seed, 60))
	}
}

// Many small blocks cost no more than their bits: books that are always the same aren't made for each.
func TestManyBlocks(t *testing.T) {
	one := &written{}
	one.fixed(0, nil)
	w := &written{strings.Repeat(one.text, 1<<19)}
	w.fixed(1, letters("a"))
	check(t, plainBytes(w.text, "0"), 1, letters("a"), (len(w.text)+7)/8, nil)
	check(t, bytes.Repeat([]byte{0, 0, 0, 0xff, 0xff}, 1<<16), 1, nil, 0, api.ErrEnd)
}

// P6.1: Expand

func TestExpand(t *testing.T) {
	for _, x := range []struct {
		tokens []api.Token
		want   string
	}{
		{nil, ""},
		{[]api.Token{{Dist: 0}, {Dist: 255}}, "\x00\xff"},
		{append(letters("ab"), api.Token{Len: 5, Dist: 2}), "abababa"},
		{append(letters("ab"), api.Token{Len: 3, Dist: 1}, api.Token{Len: 4, Dist: 5}), "abbbbabbb"},
		{append(letters("x"), api.Token{Len: 258, Dist: 1}), strings.Repeat("x", 259)},
		{append(letters(strings.Repeat("p", 32767)), api.Token{Dist: 'q'}, api.Token{Len: 3, Dist: 32768}, api.Token{Len: 3, Dist: 4}), strings.Repeat("p", 32767) + "qpppqpp"},
	} {
		for more := range 2 {
			if b, err := Expand(x.tokens, len(x.want)+more); string(b) != x.want || err != nil {
				t.Errorf("%.100v: %.100q %v", x.tokens, b, err)
			}
		}
		for most := len(x.want) - 1; most >= 0; most = most - 1 - most/4 {
			if b, err := Expand(x.tokens, most); len(b) != 0 || err != api.ErrTooLarge {
				t.Errorf("%.100v with at most %d: %.100q %v", x.tokens, most, b, err)
			}
		}
	}
}

func TestExpandFaults(t *testing.T) {
	two := letters("ab")
	type list = []api.Token
	refuse := func(tokens list, most int, want error) {
		t.Helper()
		if b, err := Expand(tokens, most); len(b) != 0 || err != want {
			t.Errorf("%.60v with at most %d: %q %v, want %v", tokens, most, b, err, want)
		}
	}
	var wrong list
	for _, n := range append([]int{256, 257, 1 << 16}, wild...) {
		wrong = append(wrong, api.Token{Dist: n})
	}
	for _, n := range append([]int{1, 2, 259, 260, 1 << 16}, wild...) {
		wrong = append(wrong, api.Token{Len: n, Dist: 1}, api.Token{Len: n, Dist: 3}, api.Token{Len: n, Dist: 0})
	}
	for _, n := range append([]int{0, 32769, 32770, 1 << 16}, wild...) {
		wrong = append(wrong, api.Token{Len: 3, Dist: n}, api.Token{Len: 258, Dist: n})
	}
	for _, x := range wrong {
		refuse(list{x}, 100, api.ErrForm)
		refuse(list{x}, 0, api.ErrForm) // ahead of the number of bytes
		refuse(append(slices.Clone(two), x), 2, api.ErrForm)
		refuse(append(slices.Clone(two), x, api.Token{Len: 3, Dist: 9}), 100, api.ErrForm)
		// Token by token: what is wrong with one before it comes first.
		refuse(append(slices.Clone(two), x), 1, api.ErrTooLarge)
		refuse(list{{Len: 3, Dist: 1}, x}, 100, api.ErrMalformed)
	}
	for _, dist := range []int{3, 4, 5, 258, 32767, 32768} {
		for _, length := range []int{3, 4, 258} {
			x := api.Token{Len: length, Dist: dist}
			refuse(list{x}, 100, api.ErrMalformed)
			refuse(append(slices.Clone(two), x), 100, api.ErrMalformed)
			refuse(append(slices.Clone(two), x), 2, api.ErrMalformed) // ahead of the number of bytes
			refuse(append(slices.Clone(two), x, api.Token{Dist: 256}), 100, api.ErrMalformed)
		}
	}
	for length := 3; length <= 258; length++ {
		tokens := append(slices.Clone(two), api.Token{Len: length, Dist: 2})
		if b, err := Expand(tokens, 2+length); len(b) != 2+length || err != nil {
			t.Error(length, b, err)
		}
		refuse(tokens, 1+length, api.ErrTooLarge)
	}
}

// P6.1: symbols

func TestBases(t *testing.T) {
	for i, b := range plainLengths() {
		if least, extra, ok := LengthBase(257 + i); least != b.least || extra != b.extra || !ok {
			t.Error(257+i, least, extra, ok, b)
		}
	}
	for i, b := range plainDists() {
		if least, extra, ok := DistBase(i); least != b.least || extra != b.extra || !ok {
			t.Error(i, least, extra, ok, b)
		}
	}
	for symbol := -600; symbol < 600; symbol++ {
		if least, extra, ok := LengthBase(symbol); (symbol < 257 || symbol > 285) && (least != 0 || extra != 0 || ok) {
			t.Error(symbol, least, extra, ok)
		}
		if least, extra, ok := DistBase(symbol); (symbol < 0 || symbol > 29) && (least != 0 || extra != 0 || ok) {
			t.Error(symbol, least, extra, ok)
		}
	}
	for _, symbol := range wild {
		if least, extra, ok := LengthBase(symbol); least != 0 || extra != 0 || ok {
			t.Error(symbol, least, extra, ok)
		}
		if least, extra, ok := DistBase(symbol); least != 0 || extra != 0 || ok {
			t.Error(symbol, least, extra, ok)
		}
	}
	for i, want := range []int{3, 4, 5, 6, 7, 8, 9, 10, 11, 13, 15, 17, 19, 23, 27, 31, 35, 43, 51, 59, 67, 83, 99, 115, 131, 163, 195, 227, 258} {
		if least, _, _ := LengthBase(257 + i); least != want {
			t.Error(257+i, least, want)
		}
	}
	for i, want := range []int{1, 2, 3, 4, 5, 7, 9, 13, 17, 25, 33, 49, 65, 97, 129, 193, 257, 385, 513, 769, 1025, 1537, 2049, 3073, 4097, 6145, 8193, 12289, 16385, 24577} {
		if least, _, _ := DistBase(i); least != want {
			t.Error(i, least, want)
		}
	}
}

func TestSymbols(t *testing.T) {
	lengths, dists := plainLengths(), plainDists()
	for n := -10; n < 70000; n++ {
		// The greatest length has a symbol of its own, though another one's extra bits reach it too.
		want, good := slices.IndexFunc(lengths, func(b base) bool { return b.holds(n) && (n == 258) == (b.least == 258) })+257, 3 <= n && n <= 258
		if symbol, ok := LengthSymbol(n); ok != good || good && symbol != want || !good && symbol != 0 {
			t.Error(n, symbol, ok, want)
		}
		want, good = slices.IndexFunc(dists, func(b base) bool { return b.holds(n) }), 1 <= n && n <= 32768
		if symbol, ok := DistSymbol(n); ok != good || good && symbol != want || !good && symbol != 0 {
			t.Error(n, symbol, ok, want)
		}
	}
	for _, n := range wild {
		if symbol, ok := LengthSymbol(n); symbol != 0 || ok {
			t.Error(n, symbol, ok)
		}
		if symbol, ok := DistSymbol(n); symbol != 0 || ok {
			t.Error(n, symbol, ok)
		}
	}
}

// P6.2

func TestTokensStandForText(t *testing.T) {
	seed := uint64(5)
	for range 300 {
		w, _ := somePacked(&seed)
		b := plainBytes(w.text, "0")
		text, read, errText := Inflate(b, api.MaxPlain)
		list, errList := Tokens(b, api.MaxPlain)
		if errText != nil || errList != nil || read != len(b) {
			t.Fatal(errText, errList, read)
		}
		if all, err := Expand(list, len(text)); !bytes.Equal(all, text) || err != nil {
			t.Fatalf("%x %v, want %x", all, err, text)
		}
	}
}

func TestBytesBehind(t *testing.T) {
	seed := uint64(6)
	for range 150 {
		w, tokens := somePacked(&seed)
		read := (len(w.text) + 7) / 8
		for _, fill := range []string{"0", "1"} {
			b := plainBytes(w.text, fill)
			for _, more := range []string{"", "\x00", "\xff", "\x07\x07", "\x03\x00", "\x4b\x04\x00", strings.Repeat("\xa5", 5000)} {
				check(t, append(slices.Clone(b), more...), len(plainExpand(tokens)), tokens, read, nil)
			}
		}
	}
}

// P6.3

// spoil writes over bytes, and over the room behind them.
func spoil(b []byte) {
	b = b[:cap(b)]
	for i := range b {
		b[i] ^= 0x5a
	}
}

// roomy is a list with others in the room behind it.
func roomy[T any](list []T, more ...T) []T {
	return append(slices.Clone(list), more...)[:len(list)]
}

func TestPackedStays(t *testing.T) {
	seed := uint64(7)
	for range 100 {
		w, tokens := somePacked(&seed)
		b, want := plainBytes(w.text, "0"), plainExpand(tokens)
		for _, cut := range []int{0, 1} { // what is good, and what isn't
			in := roomy(b[:len(b)-cut], 1, 2, 3, 4, 5)
			held := slices.Clone(in[:cap(in)])
			one, _, errOne := Inflate(in, api.MaxPlain)
			two, _, errTwo := Inflate(in, api.MaxPlain)
			list, errList := Tokens(in, api.MaxPlain)
			other, errOther := Tokens(in, api.MaxPlain)
			if !bytes.Equal(in[:cap(in)], held) {
				t.Fatal("written over")
			}
			if cut > 0 {
				if errOne != api.ErrEnd || errTwo != api.ErrEnd || errList != api.ErrEnd || errOther != api.ErrEnd {
					t.Fatal(errOne, errTwo, errList, errOther)
				}
				continue
			}
			spoil(one)
			clear(list[:cap(list)])
			spoil(in)
			if !bytes.Equal(two, want) || !slices.Equal(other, tokens) {
				t.Fatal("two answers share memory, or one with the argument")
			}
			spoil(in)
			check(t, in, len(want), tokens, len(in), nil)
		}
	}
}

func TestExpandedStays(t *testing.T) {
	tokens := roomy(append(letters("abc"), api.Token{Len: 30, Dist: 2}), api.Token{Dist: 'z'}, api.Token{Len: 3, Dist: 1})
	held := slices.Clone(tokens[:cap(tokens)])
	one, errOne := Expand(tokens, 33)
	two, errTwo := Expand(tokens, 33)
	if _, err := Expand(tokens, 32); err != api.ErrTooLarge || errOne != nil || errTwo != nil {
		t.Fatal(err, errOne, errTwo)
	}
	if !slices.Equal(tokens[:cap(tokens)], held) {
		t.Fatal("written over")
	}
	spoil(one)
	if want := "abc" + strings.Repeat("bc", 15); string(two) != want {
		t.Fatalf("%q, want %q", two, want)
	}
}
