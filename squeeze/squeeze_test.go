package squeeze

import (
	"bytes"
	"compress/flate"
	zlibs "compress/zlib"
	"encoding/hex"
	"io"
	"maps"
	"slices"
	"strconv"
	"testing"

	"burnish/api"
	"burnish/bits"
	"burnish/block"
	"burnish/inflate"
	"burnish/parse"
	"burnish/zlib"
)

// squeezed is a text's squeezed data.
func squeezed(t *testing.T, text []byte, rounds int) []byte {
	t.Helper()
	b, err := Squeeze(text, rounds)
	if err != nil {
		t.Fatalf("%.80q, %d rounds: %v", text, rounds, err)
	}
	return b
}

// checkRead tells whether packed bytes are read as a text, up to their end, by layer 6 and by another reader.
func checkRead(t *testing.T, packed, text []byte) {
	t.Helper()
	out, n, err := inflate.Inflate(packed, len(text))
	if !bytes.Equal(out, text) || n != len(packed) || err != nil {
		t.Fatalf("%.80q: %d bytes, %d of %d read, %v", text, len(out), n, len(packed), err)
	}
	r := bytes.NewReader(packed)
	out, err = io.ReadAll(flate.NewReader(r))
	if !bytes.Equal(out, text) || r.Len() != 0 || err != nil {
		t.Fatalf("%.80q: another reader has %d bytes, %d are left, %v", text, len(out), r.Len(), err)
	}
}

// checkPlain holds the plain encoding of a text, and tells its size.
func checkPlain(t *testing.T, text []byte) int {
	t.Helper()
	b, err := Plain(text)
	if want := plainStored(text); !bytes.Equal(b, want) || err != nil {
		t.Fatalf("%.80q: %.80x, %d bytes, %v, want %.80x, %d bytes", text, b, len(b), err, want, len(want))
	}
	checkRead(t, b, text)
	return len(b)
}

// checkFixed holds the fixed encoding of a text that has this greedy parse, and tells its size.
func checkFixed(t *testing.T, text []byte, greedy []api.Token) int {
	t.Helper()
	b, err := Fixed(text)
	if want := plainFixed(greedy); !bytes.Equal(b, want) || err != nil {
		t.Fatalf("%.80q: %.80x, %d bytes, %v, want %.80x, %d bytes", text, b, len(b), err, want, len(want))
	}
	checkRead(t, b, text)
	return len(b)
}

// greedy is a text's greedy parse.
func greedy(t *testing.T, text []byte) []api.Token {
	t.Helper()
	tokens, err := parse.Greedy(text)
	if err != nil {
		t.Fatal(err)
	}
	return tokens
}

// checkSqueezed holds squeezed data with more and more rounds, and tells the sizes.
func checkSqueezed(t *testing.T, text []byte, rounds ...int) []int {
	t.Helper()
	most := min(checkPlain(t, text), checkFixed(t, text, greedy(t, text)))
	var out []int
	for _, n := range rounds {
		b := squeezed(t, text, n)
		checkRead(t, b, text)
		if len(b) > most {
			t.Fatalf("%.80q: %d bytes with %d rounds, want at most %d", text, len(b), n, most)
		}
		most = len(b)
		out = append(out, len(b))
	}
	return out
}

// checkWrapped holds wrapped data against what is squeezed.
func checkWrapped(t *testing.T, text []byte, rounds int) []byte {
	t.Helper()
	b, err := Wrapped(text, rounds)
	if err != nil || len(b) < 6 || !bytes.Equal(b[2:len(b)-4], squeezed(t, text, rounds)) {
		t.Fatalf("%.80q: %.80x %v", text, b, err)
	}
	out, n, err := zlib.Unwrap(b, len(text))
	if !bytes.Equal(out, text) || n != len(b) || err != nil {
		t.Fatalf("%.80q: %d bytes, %d of %d taken, %v", text, len(out), n, len(b), err)
	}
	r, err := zlibs.NewReader(bytes.NewReader(b))
	if err != nil {
		t.Fatal(err)
	}
	if out, err := io.ReadAll(r); !bytes.Equal(out, text) || err != nil {
		t.Fatalf("%.80q: another reader has %d bytes, %v", text, len(out), err)
	}
	return b
}

// step makes the next text of its kinds of bytes, if there is one.
func step(text []byte, kinds int) bool {
	for i := range text {
		if text[i]++; int(text[i]) < kinds {
			return true
		}
		text[i] = 0
	}
	return false
}

// eachShort calls with all short texts of few kinds of bytes.
func eachShort(call func(text []byte)) {
	for kinds, longest := range map[int]int{1: 20, 2: 9, 3: 6, 4: 4} {
		for size := range longest + 1 {
			text := make([]byte, size)
			for more := true; more; more = step(text, kinds) {
				call(text)
			}
		}
	}
}

// P11.1: plain encodings

func TestPlainKnown(t *testing.T) {
	for text, want := range map[string]string{
		"":    "010000ffff",
		"a":   "010100feff61",
		"abc": "010300fcff616263",
	} {
		if b, err := Plain([]byte(text)); hex.EncodeToString(b) != want || err != nil {
			t.Errorf("%q: %x %v, want %s", text, b, err, want)
		}
	}
	checkPlain(t, nil)
}

// Both sides of each number of whole blocks.
func TestPlainSizes(t *testing.T) {
	seed := uint64(1)
	text := noise(&seed, 1<<20, 256)
	for blocks, before := range map[int]int{1: 0, 2: 65535, 3: 2 * 65535, 17: 16 * 65535} {
		for _, more := range []int{1, 2, 255, 256, 65534, 65535} {
			size := before + more
			if size > 1<<20 {
				continue
			}
			if n := checkPlain(t, text[:size]); n != size+5*blocks {
				t.Errorf("%d bytes: %d, want %d blocks", size, n, blocks)
			}
		}
	}
	if n := checkPlain(t, text); n != 1<<20+5*17 {
		t.Error(n)
	}
}

// P11.1: fixed encodings

func TestFixedKnown(t *testing.T) {
	for text, want := range map[string]string{
		"":         "0300",
		"a":        "4b0400",
		"abababab": "4b4c824000", // a, b, and a match of 6 at the distance 2
	} {
		if b, err := Fixed([]byte(text)); hex.EncodeToString(b) != want || err != nil {
			t.Errorf("%q: %x %v, want %s", text, b, err, want)
		}
	}
	checkFixed(t, nil, nil)
}

func TestFixedShort(t *testing.T) {
	eachShort(func(text []byte) { checkFixed(t, text, plainGreedy(text)) })
}

func TestFixedLonger(t *testing.T) {
	t.Parallel()
	for _, size := range []int{100, 258, 259, 260, 261, 518, 3000} {
		for _, text := range sorts(size) {
			checkFixed(t, text, plainGreedy(text))
		}
	}
	for _, size := range []int{65535, 65536, 200000} {
		for _, text := range sorts(size) {
			checkFixed(t, text, greedy(t, text))
		}
	}
}

// P11.1: limits

func TestTooLarge(t *testing.T) {
	for _, size := range []int{1<<20 + 1, 1<<20 + 2, 1 << 21, 1 << 24} {
		text := make([]byte, size)
		calls := map[string]func() ([]byte, error){
			"plain": func() ([]byte, error) { return Plain(text) },
			"fixed": func() ([]byte, error) { return Fixed(text) },
		}
		for _, rounds := range []int{0, 1, 15} {
			calls["squeeze "+strconv.Itoa(rounds)] = func() ([]byte, error) { return Squeeze(text, rounds) }
			calls["wrapped "+strconv.Itoa(rounds)] = func() ([]byte, error) { return Wrapped(text, rounds) }
		}
		for name, call := range calls {
			if b, err := call(); b != nil || err != api.ErrTooLarge {
				t.Errorf("%s, %d bytes: %d bytes, %v", name, size, len(b), err)
			}
		}
	}
}

// As much as there may be.
func TestLargest(t *testing.T) {
	t.Parallel()
	seed := uint64(2)
	for name, text := range map[string][]byte{
		"zeros":       make([]byte, 1<<20),
		"none alike":  noise(&seed, 1<<20, 256),
		"copied":      copied(&seed, 1<<20, 30, 40),
		"three parts": sorts(1 << 20)["three parts"],
	} {
		t.Run(name, func(t *testing.T) {
			t.Parallel()
			checkSqueezed(t, text, 0, 1)
			checkWrapped(t, text, 0)
		})
	}
}

func TestRounds(t *testing.T) {
	for _, rounds := range append([]int{16, 17, 255, 256, 1 << 20}, wild...) {
		for _, text := range [][]byte{nil, []byte("abc"), make([]byte, 70000), make([]byte, 1<<20+1)} {
			// Before the text is too large, the rounds are out of range.
			if b, err := Squeeze(text, rounds); b != nil || err != api.ErrRange {
				t.Errorf("%d bytes, %d rounds: %d bytes, %v", len(text), rounds, len(b), err)
			}
			if b, err := Wrapped(text, rounds); b != nil || err != api.ErrRange {
				t.Errorf("%d bytes, %d rounds: %d bytes, %v", len(text), rounds, len(b), err)
			}
		}
	}
}

// all is each number of rounds that there may be.
func all() []int {
	var out []int
	for n := range 16 {
		out = append(out, n)
	}
	return out
}

// P11.1 and P11.2: squeezed data

func TestSqueezeKnown(t *testing.T) {
	t.Parallel()
	for _, rounds := range all() {
		for text, most := range map[string]int{
			"":                                      2,
			"a":                                     3,
			"abc":                                   5,
			string(bytes.Repeat([]byte("a"), 1000)): 12,
			string(make([]byte, 1<<17)):             145,
		} {
			if b := squeezed(t, []byte(text), rounds); len(b) > most {
				t.Errorf("%.80q, %d rounds: %d bytes, want at most %d", text, rounds, len(b), most)
			}
		}
	}
	checkSqueezed(t, nil, all()...)
}

func TestSqueezeShort(t *testing.T) {
	t.Parallel()
	eachShort(func(text []byte) { checkSqueezed(t, text, 0, 1, 15) })
}

func TestSqueezeSorts(t *testing.T) {
	t.Parallel()
	for name, text := range sorts(3000) {
		t.Run(name, func(t *testing.T) {
			t.Parallel()
			checkSqueezed(t, text, all()...)
		})
	}
}

func TestSqueezeLonger(t *testing.T) {
	t.Parallel()
	for _, size := range []int{65535, 65536, 150000} {
		for name, text := range sorts(size) {
			t.Run(name, func(t *testing.T) {
				t.Parallel()
				checkSqueezed(t, text, 0, 2)
			})
		}
	}
}

func TestSqueezeEachSize(t *testing.T) {
	t.Parallel()
	names := slices.Sorted(maps.Keys(sorts(1)))
	for size := 1; size < 700; size += 1 + size/16 {
		text := sorts(size)[names[size%len(names)]]
		checkSqueezed(t, text, 0, 2, 5)
	}
}

// Rounds are of use: what is packed by prices is shorter, and shorter still by those of what was packed so.
func TestRoundsHelp(t *testing.T) {
	t.Parallel()
	seed := uint64(3)
	for name, text := range map[string][]byte{"prose": prose(&seed, 30000), "rows": rows(&seed, 30000, 90), "copied": copied(&seed, 30000, 60, 30)} {
		if sizes := checkSqueezed(t, text, 0, 1, 15); sizes[1] >= sizes[0] || sizes[2] >= sizes[1] {
			t.Errorf("%s: %v", name, sizes)
		}
	}
}

// The packer of the library is never shorter.
func TestShorterThanOthers(t *testing.T) {
	t.Parallel()
	for name, text := range sorts(15000) {
		var other bytes.Buffer
		w, err := flate.NewWriter(&other, flate.BestCompression)
		if err != nil {
			t.Fatal(err)
		}
		if _, err := w.Write(text); err != nil || w.Close() != nil {
			t.Fatal(err)
		}
		if b := squeezed(t, text, 3); len(b) > other.Len() {
			t.Errorf("%s: %d bytes, and %d by another packer", name, len(b), other.Len())
		}
	}
}

// P11.1: wrapped data

func TestWrapped(t *testing.T) {
	t.Parallel()
	for size := range 21 {
		for i, text := range [][]byte{make([]byte, size), noiseOf(size, 2), noiseOf(size, 256)} {
			checkWrapped(t, text, (size+5*i)%16)
		}
	}
	for _, text := range sorts(2000) {
		for _, rounds := range all() {
			checkWrapped(t, text, rounds)
		}
	}
	for _, text := range sorts(40000) {
		checkWrapped(t, text, 1)
	}
}

// The head's window holds all distances that are written, and isn't greater than it need be.
func TestWindow(t *testing.T) {
	t.Parallel()
	seed := uint64(4)
	piece := noise(&seed, 40, 256)
	for power := range 8 {
		window := 256 << power
		for size, want := range map[int]int{window/2 + 1: power, window - 1: power, window: power, window + 1: power + 1} {
			switch {
			case size < 40:
				continue
			case power == 7 && size > window:
				want = 0 // no match reaches so far
			case power == 0 && size <= window:
				want = 0
			}
			text := slices.Concat(piece, noise(&seed, size-40, 256), piece)
			if b := checkWrapped(t, text, 0); int(b[0]) != want<<4|8 {
				t.Errorf("a match at the distance %d: %x", size, b[0])
			}
		}
	}
	// What can't be packed has no match.
	text := noise(&seed, 70000, 256)
	if b := checkWrapped(t, text, 1); b[0] != 8 {
		t.Errorf("%x", b[0])
	}
}

// P11.1: tokens in several blocks

// checkSplit holds the blocks of valid tokens against what they may be.
func checkSplit(t *testing.T, tokens []api.Token, text []byte) []block.Block {
	t.Helper()
	list, err := Split(tokens, text)
	if err != nil || len(list) == 0 {
		t.Fatalf("%v and %.80q: %d blocks, %v", few(tokens), text, len(list), err)
	}
	var allTokens []api.Token
	var allText []byte
	sum := 0
	for _, b := range list {
		n, err := block.Bits(b)
		if err != nil || !isPlainBlock(b) {
			t.Fatalf("%v and %.80q: the block of kind %d, %v, %.80q isn't valid", few(tokens), text, b.Kind, few(b.Tokens), b.Text)
		}
		sum += n
		allTokens, allText = append(allTokens, b.Tokens...), append(allText, b.Text...)
	}
	if !slices.Equal(allTokens, tokens) || !bytes.Equal(allText, text) {
		t.Fatalf("%v and %.80q: %v and %.80q in blocks", few(tokens), text, few(allTokens), allText)
	}
	if most := bitsOfOne(t, tokens, text); sum > most {
		t.Fatalf("%v and %.80q: %d bits in %d blocks, %d in one", few(tokens), text, sum, len(list), most)
	}
	return list
}

// bitsOfOne is how many bits the best block has that has all tokens.
func bitsOfOne(t *testing.T, tokens []api.Token, text []byte) int {
	t.Helper()
	b, err := block.Best(tokens, text)
	if err != nil {
		t.Fatal(err)
	}
	n, err := block.Bits(b)
	if err != nil {
		t.Fatal(err)
	}
	return n
}

// bitsOf is how many bits blocks have.
func bitsOf(t *testing.T, list []block.Block) int {
	t.Helper()
	sum := 0
	for _, b := range list {
		n, err := block.Bits(b)
		if err != nil {
			t.Fatal(err)
		}
		sum += n
	}
	return sum
}

// checkNoSplit tells whether tokens and a text are refused.
func checkNoSplit(t *testing.T, tokens []api.Token, text []byte) {
	t.Helper()
	if list, err := Split(tokens, text); list != nil || err != api.ErrForm {
		t.Fatalf("%v and %.80q: %d blocks, %v", few(tokens), text, len(list), err)
	}
}

func TestSplitNothing(t *testing.T) {
	for _, tokens := range [][]api.Token{nil, {}} {
		for _, text := range [][]byte{nil, {}} {
			if list := checkSplit(t, tokens, text); len(list) != 1 {
				t.Error(list)
			}
		}
	}
}

// All short lists of tokens with all short texts.
func TestSplitShort(t *testing.T) {
	each := []api.Token{{Dist: 0}, {Dist: 1}, {Dist: 256}, {Dist: -1}, {Len: 2, Dist: 1}, {Len: 3, Dist: 1}, {Len: 3, Dist: 2}, {Len: 4, Dist: 32768}, {Len: 3, Dist: 0}, {Len: 3, Dist: 32769}, {Len: 259, Dist: 1}, {Len: -1, Dist: 1}}
	lists := [][]api.Token{nil}
	for range 3 {
		for _, list := range slices.Clone(lists) {
			for _, x := range each {
				lists = append(lists, slices.Concat(list, []api.Token{x}))
			}
		}
	}
	valid := 0
	for size := range 7 {
		text := make([]byte, size)
		for more := true; more; more = step(text, 2) {
			for _, tokens := range lists {
				if isPlainBlock(block.Block{Kind: 1, Tokens: tokens, Text: text}) {
					valid++
					checkSplit(t, tokens, text)
				} else {
					checkNoSplit(t, tokens, text)
				}
			}
		}
	}
	if valid < 300 {
		t.Error("only", valid)
	}
}

func TestSplitMixed(t *testing.T) {
	t.Parallel()
	seed := uint64(5)
	several := 0
	for i := range 150 {
		front := noise(&seed, pick(&seed, 2)*pick(&seed, 40000), 200)
		var tokens []api.Token
		text := slices.Clone(front)
		for range 1 + pick(&seed, 4) {
			list, more := mixed(&seed, text, pick(&seed, 10*(i+1)), 1+pick(&seed, 256), 3+pick(&seed, 256))
			tokens, text = append(tokens, list...), append(text, more...)
		}
		list := checkSplit(t, tokens, text[len(front):])
		if len(list) > 1 {
			several++
		}
		checkSplitRead(t, front, list, text)
	}
	if several < 40 {
		t.Error("only", several)
	}
}

// checkSplitRead tells whether blocks, written behind one of what they reach into, are read as the text.
func checkSplitRead(t *testing.T, front []byte, list []block.Block, text []byte) {
	t.Helper()
	w := bits.NewWriter(false)
	if err := block.Write(w, block.Block{Kind: 0, Tokens: letters(front), Text: front}, false); err != nil {
		t.Fatal(err)
	}
	for i, b := range list {
		if err := block.Write(w, b, i == len(list)-1); err != nil {
			t.Fatal(err)
		}
	}
	checkRead(t, w.Bytes(), text)
}

// Wrong tokens, and wrong texts, wherever they are.
func TestSplitRefuses(t *testing.T) {
	seed := uint64(6)
	tokens, text := mixed(&seed, nil, 1000, 100, 258)
	tokens, text = append(tokens, letters([]byte("end"))...), append(text, "end"...)
	checkSplit(t, tokens, text)
	wrong := []api.Token{{Len: 1, Dist: 1}, {Len: 2, Dist: 1}, {Len: 259, Dist: 1}, {Dist: 256}, {Len: 3, Dist: 0}, {Len: 3, Dist: 32769}}
	for _, n := range wild {
		wrong = append(wrong, api.Token{Len: n, Dist: 1}, api.Token{Dist: n}, api.Token{Len: n, Dist: n})
		if n != 32768 {
			wrong = append(wrong, api.Token{Len: 3, Dist: n})
		}
	}
	for _, at := range []int{0, 1, 63, 64, 500, len(tokens) - 1} {
		for _, x := range wrong {
			checkNoSplit(t, with(tokens, at, x), text)
			checkNoSplit(t, []api.Token{x}, nil)
			checkNoSplit(t, []api.Token{x}, text[:3])
		}
		checkNoSplit(t, slices.Delete(slices.Clone(tokens), at, at+1), text)
		checkNoSplit(t, slices.Insert(slices.Clone(tokens), at, tokens[0]), text)
	}
	for at := range text {
		// Bytes that matches stand for are held against those that they repeat.
		if changed := with(text, at, text[at]^1); at < 300 || at >= len(text)-3 {
			checkNoSplit(t, tokens, changed)
		}
	}
	checkNoSplit(t, tokens, nil)
	checkNoSplit(t, nil, text)
	checkNoSplit(t, tokens, text[:len(text)-1])
	checkNoSplit(t, tokens, append(slices.Clone(text), 'd'))
	checkNoSplit(t, tokens, text[1:])
}

// Where the bytes change, blocks are apart.
func TestSplitFinds(t *testing.T) {
	seed := uint64(7)
	for name, parts := range map[string][][]byte{
		"two kinds, and all":     {noise(&seed, 3000, 2), noise(&seed, 2500, 256)},
		"all, and two kinds":     {noise(&seed, 200, 256), noise(&seed, 4000, 2)},
		"low and high":           {noise(&seed, 5000, 60), bytes.Repeat([]byte{250, 251, 253, 252}, 900)},
		"back again":             {noise(&seed, 2000, 8), hill(&seed, 3000, 40), noise(&seed, 2000, 8)},
		"too much for one block": {noise(&seed, 20000, 16), noise(&seed, 90000, 256), noise(&seed, 20000, 16)},
	} {
		text := slices.Concat(parts...)
		tokens := letters(text)
		list := checkSplit(t, tokens, text)
		if sum, one := bitsOf(t, list), bitsOfOne(t, tokens, text); len(list) < len(parts) || sum >= one {
			t.Errorf("%s: %d blocks with %d bits, %d in one", name, len(list), sum, one)
		}
		// Each place where the bytes change is near one between blocks.
		places, at := []int{}, 0
		for _, b := range list {
			at += len(b.Tokens)
			places = append(places, at)
		}
		at = 0
		for _, part := range parts {
			at += len(part)
			if !slices.ContainsFunc(places, func(x int) bool { return max(x-at, at-x) <= 20 }) {
				t.Errorf("%s: %d isn't near any of %v", name, at, places)
			}
		}
	}
}

// Bytes that aren't packed have blocks of as many as may be, whatever they are tokens of.
func TestSplitStored(t *testing.T) {
	t.Parallel()
	seed := uint64(8)
	for _, size := range []int{65534, 65535, 65536, 131070, 131071, 300000} {
		text := noise(&seed, size, 256)
		for _, tokens := range [][]api.Token{letters(text), greedy(t, text)} {
			list := checkSplit(t, tokens, text)
			for _, b := range list {
				if b.Kind != 0 {
					t.Errorf("%d bytes: a block of kind %d with %d", size, b.Kind, len(b.Text))
				}
			}
			if len(list) > 2*(size/65535+1) {
				t.Errorf("%d bytes: %d blocks", size, len(list))
			}
		}
	}
}

// What is alike isn't split.
func TestSplitNot(t *testing.T) {
	seed := uint64(9)
	for _, text := range [][]byte{make([]byte, 50000), noise(&seed, 50000, 4), noise(&seed, 30000, 256), hill(&seed, 20000, 3)} {
		if list := checkSplit(t, letters(text), text); len(list) != 1 {
			t.Errorf("%.80q: %d blocks", text, len(list))
		}
	}
}

// More tokens than a text that is packed can have.
func TestSplitMany(t *testing.T) {
	t.Parallel()
	text := slices.Concat(make([]byte, 1<<20), bytes.Repeat([]byte{7, 9, 8, 9}, 1<<17))
	if list := checkSplit(t, letters(text), text); len(list) < 2 {
		t.Error(len(list))
	}
}

// P11.3

// The same text and rounds have the same data, and tokens the same blocks.
func TestSameAgain(t *testing.T) {
	t.Parallel()
	for name, text := range sorts(4000) {
		for _, rounds := range []int{0, 2, 15} {
			a, b := squeezed(t, text, rounds), squeezed(t, spare(text, 1, 2, 3), rounds)
			if !bytes.Equal(a, b) {
				t.Fatalf("%s, %d rounds: other bytes", name, rounds)
			}
		}
		tokens := greedy(t, text)
		a, b := checkSplit(t, tokens, text), checkSplit(t, spare(tokens, api.Token{Len: -1}), spare(text, 7))
		if !slices.EqualFunc(a, b, func(x, y block.Block) bool { return x.Kind == y.Kind && len(x.Tokens) == len(y.Tokens) }) {
			t.Fatalf("%s: other blocks", name)
		}
	}
}

func TestArgumentsStay(t *testing.T) {
	t.Parallel()
	for _, made := range [][]byte{nil, []byte("abcabc"), sorts(5000)["three parts"], sorts(70000)["none alike"]} {
		text := spare(made, 1, 2, 3)
		tokens := spare(greedy(t, made), api.Token{Len: 1, Dist: 1}, api.Token{Dist: -1})
		room, roomTokens := text[:len(text)+3], tokens[:len(tokens)+2]
		held, heldTokens := slices.Clone(room), slices.Clone(roomTokens)
		var results [][]byte
		for _, call := range []func() ([]byte, error){
			func() ([]byte, error) { return Plain(text) },
			func() ([]byte, error) { return Fixed(text) },
			func() ([]byte, error) { return Squeeze(text, 2) },
			func() ([]byte, error) { return Wrapped(text, 2) },
		} {
			b, err := call()
			if err != nil || !bytes.Equal(room, held) {
				t.Fatal("the text is changed", err)
			}
			results = append(results, b)
		}
		list := checkSplit(t, tokens, text)
		if !bytes.Equal(room, held) || !slices.Equal(roomTokens, heldTokens) {
			t.Fatal("an argument is changed")
		}
		copies, copied := cloneAll(results), cloneBlocks(list)
		clear(room)
		clear(roomTokens)
		if !slices.EqualFunc(results, copies, bytes.Equal) || !slices.EqualFunc(list, copied, sameBlock) {
			t.Fatal("a result hangs on an argument")
		}
	}
}

func cloneAll(lists [][]byte) [][]byte {
	var out [][]byte
	for _, b := range lists {
		out = append(out, slices.Clone(b))
	}
	return out
}

func cloneBlocks(list []block.Block) []block.Block {
	var out []block.Block
	for _, b := range list {
		out = append(out, block.Block{Kind: b.Kind, Tokens: slices.Clone(b.Tokens), Text: slices.Clone(b.Text)})
	}
	return out
}

func sameBlock(a, b block.Block) bool {
	return a.Kind == b.Kind && slices.Equal(a.Tokens, b.Tokens) && bytes.Equal(a.Text, b.Text)
}

// What is done to one answer is not seen in the arguments, in another answer, in the next one, or elsewhere in the same.
func TestResultsApart(t *testing.T) {
	text := sorts(9000)["three parts"]
	tokens := greedy(t, text)
	held, heldTokens := slices.Clone(text), slices.Clone(tokens)
	calls := []func() ([]byte, error){
		func() ([]byte, error) { return Plain(text) },
		func() ([]byte, error) { return Fixed(text) },
		func() ([]byte, error) { return Squeeze(text, 2) },
		func() ([]byte, error) { return Wrapped(text, 2) },
	}
	for _, call := range calls {
		first, err := call()
		if err != nil {
			t.Fatal(err)
		}
		want := slices.Clone(first)
		clear(first[:cap(first)])
		if again, err := call(); !bytes.Equal(again, want) || err != nil || !bytes.Equal(text, held) {
			t.Fatal("an answer hangs on another", err)
		}
	}
	list := checkSplit(t, tokens, text)
	if len(list) < 2 {
		t.Fatal("only", len(list))
	}
	want := cloneBlocks(list)
	for i := range list {
		room, roomText := list[i].Tokens[:cap(list[i].Tokens)], list[i].Text[:cap(list[i].Text)]
		clear(room)
		clear(roomText)
		if !slices.EqualFunc(list[i+1:], want[i+1:], sameBlock) {
			t.Fatal("blocks share memory")
		}
	}
	if !bytes.Equal(text, held) || !slices.Equal(tokens, heldTokens) {
		t.Fatal("an argument is changed by its result")
	}
	if again := checkSplit(t, tokens, text); !slices.EqualFunc(again, want, sameBlock) {
		t.Fatal("an answer hangs on another")
	}
}
