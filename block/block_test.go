package block

import (
	"bytes"
	"compress/flate"
	"io"
	"math"
	"slices"
	"strings"
	"testing"

	"burnish/api"
	"burnish/bits"
	"burnish/inflate"
	"burnish/merge"
	"burnish/parse"
)

// count is how many bits a valid block has.
func count(t *testing.T, b Block) int {
	t.Helper()
	n, err := Bits(b)
	if err != nil {
		t.Fatalf("kind %d of %v: %v", b.Kind, few(b.Tokens), err)
	}
	return n
}

// writer is a writer in low order with some bits.
func writer(t *testing.T, before string) *bits.Writer {
	t.Helper()
	w := bits.NewWriter(false)
	for _, x := range before {
		if err := w.Put(int(x-'0'), 1); err != nil {
			t.Fatal(err)
		}
	}
	return w
}

// write is the bits of a valid block behind some bits, which stay.
func write(t *testing.T, before string, b Block, last bool) string {
	t.Helper()
	w := writer(t, before)
	if err := Write(w, b, last); err != nil {
		t.Fatalf("kind %d of %v: %v", b.Kind, few(b.Tokens), err)
	}
	text := plainText(w.Bytes())
	if !strings.HasPrefix(text, before) || strings.Contains(text[w.Len():], "1") {
		t.Fatalf("%.80s behind %s", text, before)
	}
	return text[len(before):w.Len()]
}

// few is the first elements of a list, to be told.
func few[T any](list []T) []T { return list[:min(len(list), 40)] }

// before is bits that leave each number of bits of a byte.
var before = []string{"", "1", "01", "110", "1111", "00001", "101010", "1111111", "10000000"}

// checkBlock holds what is written of a valid block, wherever it stands, against the chapter's words for it.
func checkBlock(t *testing.T, b Block) {
	t.Helper()
	n := count(t, b)
	dynamic := ""
	for i, first := range before {
		last := i%2 == 1
		text := write(t, first, b, last)
		if head := plainHead(b.Kind, last); !strings.HasPrefix(text, head) {
			t.Fatalf("kind %d, last %v: it begins with %.3s", b.Kind, last, text)
		}
		switch b.Kind {
		case 0:
			if want := plainStored(len(first), b.Text, last); text != want {
				t.Fatalf("kind 0 behind %s: %.80s, want %.80s", first, text, want)
			}
			// As many as if there were 7 up to the end of the byte.
			if want := 3 + 7 + 32 + 8*len(b.Text); n != want {
				t.Fatalf("kind 0: %d bits, want %d", n, want)
			}
		case 1:
			if want := plainFixed(b.Tokens, last); text != want || n != len(want) {
				t.Fatalf("kind 1: %d bits, %.80s, want %d, %.80s", n, text, len(want), want)
			}
		case 2:
			if i > 0 && text[1:] != dynamic[1:] || n != len(text) {
				t.Fatalf("kind 2: %d bits, %.80s, %d, %.80s", n, text, len(text), dynamic)
			}
			dynamic = text
		}
	}
	if b.Kind == 2 {
		checkDynamic(t, b.Tokens, dynamic)
	}
}

// checkDynamic holds the bits of a block of kind 2 against what may stand in one.
func checkDynamic(t *testing.T, tokens []api.Token, text string) {
	t.Helper()
	read, ok := readDynamic(text[3:])
	if !ok || !slices.Equal(read.tokens, tokens) {
		t.Fatalf("%v is read as %v, %v", few(tokens), few(read.tokens), ok)
	}
	literals, dists := plainCounts(tokens)
	checkLengths(t, "literal", literals, read.literals, 2)
	checkLengths(t, "distance", dists, read.dists, 0)
}

// checkLengths holds lengths against the best ones for counts. If fewer symbols occur than so many, there are codes for so many.
func checkLengths(t *testing.T, name string, counts, lengths []int, least int) {
	t.Helper()
	occurring, coded, cost := 0, 0, 0
	lengths = slices.Concat(lengths, many(len(counts)-len(lengths), 0))
	for symbol, n := range counts {
		cost += n * lengths[symbol]
		if n > 0 {
			occurring++
		}
		if lengths[symbol] > 0 {
			coded++
		}
		if n > 0 && lengths[symbol] == 0 || lengths[symbol] > 15 {
			t.Fatalf("%s %d, %d times: length %d", name, symbol, n, lengths[symbol])
		}
	}
	if coded != max(occurring, least) {
		t.Fatalf("%s lengths: %d for %d symbols", name, coded, occurring)
	}
	if free := plainFree(lengths); coded > 1 && free != 0 || coded == 1 && free != 1<<15 {
		t.Fatalf("%s lengths leave %d free of %d codes", name, free, coded)
	}
	want, longest := plainLeast(counts)
	if longest > 15 {
		best, err := merge.Lengths(counts, 15)
		if err != nil {
			t.Fatal(err)
		}
		if want, err = merge.Cost(counts, best); err != nil {
			t.Fatal(err)
		}
	}
	if cost != want {
		t.Fatalf("%s lengths cost %d, want %d", name, cost, want)
	}
}

// checkBest holds the best block against those of all kinds, and tells its kind.
func checkBest(t *testing.T, tokens []api.Token, text []byte) int {
	t.Helper()
	b, err := Best(tokens, text)
	if err != nil || !slices.Equal(b.Tokens, tokens) || !bytes.Equal(b.Text, text) {
		t.Fatalf("%v: %v, %.80q, %v", few(tokens), few(b.Tokens), b.Text, err)
	}
	want, least := -1, math.MaxInt
	for kind := range 3 {
		if n, err := Bits(Block{kind, tokens, text}); err == nil && n < least {
			want, least = kind, n
		}
	}
	if b.Kind != want {
		t.Fatalf("%v: kind %d, want %d", few(tokens), b.Kind, want)
	}
	return b.Kind
}

// checkAll is checkBlock for all kinds that a text may have, and checkBest.
func checkAll(t *testing.T, tokens []api.Token, text []byte) int {
	t.Helper()
	for kind := range 3 {
		if b := (Block{kind, tokens, text}); isPlainBlock(b) {
			checkBlock(t, b)
		} else if kind > 0 || len(text) <= 65535 {
			t.Fatalf("kind %d of %v isn't valid", kind, few(tokens))
		}
	}
	checkPrices(t, tokens, text)
	return checkBest(t, tokens, text)
}

// checkRefused tells whether a block is refused everywhere, and a writer stays as it is.
func checkRefused(t *testing.T, b Block) {
	t.Helper()
	if n, err := Bits(b); n != 0 || err != api.ErrForm {
		t.Fatalf("kind %d of %v and %.80q: %d bits, %v", b.Kind, few(b.Tokens), b.Text, n, err)
	}
	for _, first := range []string{"", "101"} {
		for _, last := range []bool{false, true} {
			w := writer(t, first)
			if err := Write(w, b, last); err != api.ErrForm || w.Len() != len(first) {
				t.Fatalf("kind %d of %v and %.80q: %v, %d bits are written", b.Kind, few(b.Tokens), b.Text, err, w.Len()-len(first))
			}
		}
	}
}

// checkValid holds what is taken for a valid block against the plain one, for all kinds.
func checkValid(t *testing.T, tokens []api.Token, text []byte) bool {
	t.Helper()
	for kind := -1; kind <= 3; kind++ {
		b := Block{kind, tokens, text}
		if !isPlainBlock(b) {
			checkRefused(t, b)
		} else if _, err := Bits(b); err != nil {
			t.Fatalf("kind %d of %v and %q: %v", kind, tokens, text, err)
		} else if err := Write(bits.NewWriter(false), b, true); err != nil {
			t.Fatalf("kind %d of %v and %q: %v", kind, tokens, text, err)
		}
	}
	ok := isPlainBlock(Block{1, tokens, text})
	if b, err := Best(tokens, text); ok && err != nil || !ok && (err != api.ErrForm || b.Kind != 0 || b.Tokens != nil || b.Text != nil) {
		t.Fatalf("%v and %q: kind %d, %v, want %v", tokens, text, b.Kind, err, ok)
	}
	return ok
}

// P10.1: runs

// checkRuns holds the runs of lengths against what they may be.
func checkRuns(t *testing.T, lengths []int) []Run {
	t.Helper()
	runs, err := Runs(lengths)
	if err != nil || len(runs) > len(lengths) {
		t.Fatalf("%v: %d runs, %v", few(lengths), len(runs), err)
	}
	if want, ok := plainUnruns(runs); !ok || !slices.Equal(want, lengths) {
		t.Fatalf("%v: %v stand for %v, %v", few(lengths), few(runs), few(want), ok)
	}
	checkUnruns(t, runs)
	return runs
}

// checkUnruns holds the lengths of runs against the plain ones.
func checkUnruns(t *testing.T, runs []Run) bool {
	t.Helper()
	lengths, err := Unruns(runs)
	want, ok := plainUnruns(runs)
	if !slices.Equal(lengths, want) || ok && err != nil || !ok && (err != api.ErrForm || lengths != nil) {
		t.Fatalf("%v: %v, %v, want %v, %v", few(runs), few(lengths), err, few(want), ok)
	}
	return ok
}

func TestRunsKnown(t *testing.T) {
	for _, x := range []struct {
		lengths []int
		want    []Run
	}{
		{nil, nil},
		{[]int{}, nil},
		{[]int{0}, []Run{{0, 0}}},
		{[]int{15}, []Run{{15, 0}}},
		{[]int{0, 0, 0, 0, 5, 5, 5, 5, 5}, []Run{{17, 1}, {5, 0}, {16, 1}}},
		{many(138, 0), []Run{{18, 127}}},
		{many(10, 0), []Run{{17, 7}}},
		{many(7, 9), []Run{{9, 0}, {16, 3}}},
	} {
		if runs, err := Runs(x.lengths); !slices.Equal(runs, x.want) || err != nil {
			t.Errorf("%v: %v %v, want %v", x.lengths, runs, err, x.want)
		}
		checkRuns(t, x.lengths)
	}
}

// All short sequences of a few lengths.
func TestRunsShort(t *testing.T) {
	for size := range 8 {
		sum := 1
		for range size {
			sum *= 4
		}
		for n := range sum {
			var lengths []int
			for range size {
				lengths, n = append(lengths, []int{0, 1, 8, 15}[n%4]), n/4
			}
			checkRuns(t, lengths)
		}
	}
}

// Every length, as often as any run may be long and far beyond that, alone and between others.
func TestRunsLong(t *testing.T) {
	for length := range 16 {
		for count := 1; count < 300; count++ {
			runs := checkRuns(t, many(count, length))
			// A run is no shorter than it may be by much.
			if most := 3 + count/6; len(runs) > most {
				t.Fatalf("%d times %d: %d runs", count, length, len(runs))
			}
			checkRuns(t, slices.Concat([]int{0, 3}, many(count, length), []int{4, 0, 0}))
			checkRuns(t, slices.Concat(many(count, length), many(300-count, (length+1)%16)))
		}
	}
	checkRuns(t, many(100000, 0))
	checkRuns(t, many(100000, 7))
}

func TestRunsNoise(t *testing.T) {
	seed := uint64(1)
	for range 2000 {
		var lengths []int
		for range pick(&seed, 30) {
			lengths = append(lengths, many(1+pick(&seed, 1+pick(&seed, 150)), pick(&seed, 1+pick(&seed, 16)))...)
		}
		checkRuns(t, lengths)
	}
}

func TestRunsRefuse(t *testing.T) {
	for _, n := range append([]int{16, 17, 18, 19, 255, 256}, wild...) {
		for size := 1; size < 6; size++ {
			for at := range size {
				for _, others := range []int{0, 5} {
					for _, count := range []int{1, 4, 20} {
						lengths := many(size, others)
						lengths = slices.Concat(lengths[:at], many(count, n), lengths[at+1:])
						if runs, err := Runs(lengths); runs != nil || err != api.ErrForm {
							t.Fatalf("%v: %v %v", lengths, runs, err)
						}
					}
				}
			}
		}
	}
}

// Every symbol with every number, alone and behind others.
func TestUnrunsEach(t *testing.T) {
	good := 0
	for symbol := -3; symbol < 25; symbol++ {
		for extra := -3; extra < 300; extra++ {
			for _, first := range [][]Run{nil, {{0, 0}}, {{9, 0}}, {{9, 0}, {17, 2}}, {{9, 0}, {18, 0}, {16, 1}}, {{3, 0}, {15, 0}, {16, 3}}} {
				if checkUnruns(t, append(slices.Clone(first), Run{symbol, extra})) {
					good++
				}
				checkUnruns(t, slices.Concat(first, []Run{{symbol, extra}, {16, 3}, {1, 0}, {16, 0}}))
			}
		}
	}
	if want := 6*(16+8+128) + 5*4; good != want {
		t.Errorf("%d are good, want %d", good, want)
	}
}

func TestUnrunsRefuses(t *testing.T) {
	runs := []Run{{4, 0}, {16, 2}, {17, 7}, {18, 127}, {16, 3}, {0, 0}, {15, 0}}
	checkUnruns(t, nil)
	checkUnruns(t, []Run{})
	if !checkUnruns(t, runs) {
		t.Fatal(runs)
	}
	for at, r := range runs {
		for _, n := range append([]int{19, 20, 128, 256}, wild...) {
			if checkUnruns(t, with(runs, at, Run{n, r.Extra})) || checkUnruns(t, with(runs, at, Run{n, 0})) {
				t.Fatal(at, n)
			}
		}
		for _, n := range append([]int{128, 129, 256}, wild...) {
			if checkUnruns(t, with(runs, at, Run{r.Symbol, n})) {
				t.Fatal(at, n)
			}
		}
	}
	if checkUnruns(t, runs[1:]) || checkUnruns(t, []Run{{16, 0}}) || !checkUnruns(t, []Run{{0, 0}, {16, 0}}) {
		t.Fatal("16 first")
	}
}

func TestUnrunsNoise(t *testing.T) {
	seed := uint64(2)
	for range 2000 {
		var runs []Run
		for range pick(&seed, 40) {
			r := Run{Symbol: pick(&seed, 19)}
			if r.Symbol >= 16 {
				r.Extra = pick(&seed, 1<<runBases[r.Symbol-16].extra)
			}
			if len(runs) > 0 || r.Symbol != 16 {
				runs = append(runs, r)
			}
		}
		if !checkUnruns(t, runs) {
			t.Fatal(runs)
		}
		lengths, _ := plainUnruns(runs)
		if again := checkRuns(t, lengths); len(again) > len(lengths) {
			t.Fatal(runs)
		}
	}
}

// P10.1: what a valid block is

// All short lists of some tokens, with all short texts of two kinds of bytes.
func TestValidShort(t *testing.T) {
	pool := []api.Token{{Dist: 'a'}, {Dist: 'b'}, {Len: 3, Dist: 1}, {Len: 3, Dist: 2}, {Len: 3, Dist: 3}, {Len: 4, Dist: 2}, {Len: 5, Dist: 4}, {Len: 3, Dist: 32768}, {Len: 2, Dist: 1}, {Len: 0, Dist: 256}}
	texts := []string{""}
	for i := 0; len(texts[i]) < 7; i++ {
		texts = append(texts, texts[i]+"a", texts[i]+"b")
	}
	good := 0
	var grow func(tokens []api.Token)
	grow = func(tokens []api.Token) {
		for _, text := range texts {
			if len(text) == 0 || len(tokens) > 0 {
				if checkValid(t, tokens, []byte(text)) {
					good++
				}
			}
		}
		for _, x := range pool {
			if len(tokens) < 3 {
				grow(append(slices.Clone(tokens), x))
			}
		}
	}
	grow(nil)
	if good < 1000 {
		t.Error("only", good)
	}
}

// Tokens at and beyond the edges of what they may be, at each place, with a text that each would stand for.
func TestTokensOfBlock(t *testing.T) {
	for _, x := range []api.Token{{Len: 0, Dist: 0}, {Len: 0, Dist: 1}, {Len: 0, Dist: 255}, {Len: 3, Dist: 1}, {Len: 3, Dist: 32768}, {Len: 258, Dist: 1}, {Len: 258, Dist: 32768}, {Len: 10, Dist: 700}} {
		for place := range 3 {
			list, text := around(x, place)
			if !checkValid(t, list, text) {
				t.Fatal(list)
			}
		}
	}
	wrong := []api.Token{{Len: 0, Dist: 256}, {Len: 0, Dist: 257}, {Len: 1, Dist: 1}, {Len: 2, Dist: 1}, {Len: 259, Dist: 1}, {Len: 300, Dist: 1}, {Len: 3, Dist: 0}, {Len: 3, Dist: 32769}, {Len: 258, Dist: 32769}, {Len: 1, Dist: 0}, {Len: 2, Dist: 97}}
	for _, n := range wild {
		wrong = append(wrong, api.Token{Len: 0, Dist: n}, api.Token{Len: n, Dist: 1}, api.Token{Len: n, Dist: 'a'}, api.Token{Len: 3, Dist: n}, api.Token{Len: n, Dist: n})
	}
	for _, x := range wrong {
		for place := range 3 {
			list, text := around(x, place)
			for _, some := range [][]byte{text, text[:2], nil, []byte("aaaaa")} {
				if checkValid(t, list, some) {
					t.Fatal(list)
				}
			}
			if p, err := Prices(list); p.Literals != nil || p.Lengths != nil || p.Dists != nil || err != api.ErrForm {
				t.Fatal(list, p, err)
			}
		}
	}
}

// around is a token between two others, and a text that they would stand for.
func around(x api.Token, place int) ([]api.Token, []byte) {
	fill := byte('a')
	if x.Len == 0 {
		fill = byte(x.Dist)
	}
	list := slices.Repeat([]api.Token{{Dist: int(fill)}}, 2)
	size := max(x.Len, 1)
	if size > 1000 {
		size = 1000
	}
	return slices.Insert(list, place, x), bytes.Repeat([]byte{fill}, 2+size)
}

// A text of another length, or with another byte anywhere, isn't what tokens stand for, but where a match repeats what precedes the text.
func TestTextOfBlock(t *testing.T) {
	seed := uint64(3)
	front := noise(&seed, 40, 200)
	free := 0
	for range 60 {
		tokens, text := mixed(&seed, front, 1+pick(&seed, 8), 200, 30)
		if !checkValid(t, tokens, text) {
			t.Fatal(tokens)
		}
		for at := range text {
			if checkValid(t, tokens, with(text, at, text[at]+1)) {
				free++
			}
		}
		if checkValid(t, tokens, text[:len(text)-1]) || checkValid(t, tokens, append(slices.Clone(text), text[0])) || checkValid(t, tokens, nil) || checkValid(t, nil, text) || checkValid(t, tokens[:len(tokens)-1], text) {
			t.Fatal(tokens)
		}
	}
	if free == 0 {
		t.Error("no match reaches before a text")
	}
}

// Matches that reach before the text, wholly and in part, with what precedes it unknown.
func TestBeforeText(t *testing.T) {
	for _, x := range []struct {
		tokens []api.Token
		text   string
		want   bool
	}{
		{[]api.Token{{Len: 4, Dist: 3}}, "abca", true},
		{[]api.Token{{Len: 4, Dist: 3}}, "abcb", false},
		{[]api.Token{{Len: 4, Dist: 4}}, "abcd", true},
		{[]api.Token{{Len: 4, Dist: 32768}}, "abcd", true},
		{[]api.Token{{Len: 4, Dist: 1}}, "aaaa", true},
		{[]api.Token{{Len: 4, Dist: 1}}, "abaa", false},
		{[]api.Token{{Len: 0, Dist: 'x'}, {Len: 4, Dist: 2}}, "xaxax", true},
		{[]api.Token{{Len: 0, Dist: 'x'}, {Len: 4, Dist: 2}}, "xaxay", false},
		{[]api.Token{{Len: 0, Dist: 'x'}, {Len: 4, Dist: 2}}, "xayay", false},
		// These say different things of the byte before the text, which isn't checked.
		{[]api.Token{{Len: 0, Dist: 'x'}, {Len: 3, Dist: 2}, {Len: 3, Dist: 5}}, "xaxabxa", true},
		{[]api.Token{{Len: 3, Dist: 3}, {Len: 3, Dist: 6}}, "abcxyz", true},
		{[]api.Token{{Len: 3, Dist: 3}, {Len: 3, Dist: 3}}, "abcxyz", false},
	} {
		if got := checkValid(t, x.tokens, []byte(x.text)); got != x.want {
			t.Errorf("%v, %s: %v", x.tokens, x.text, got)
		}
	}
}

func TestKinds(t *testing.T) {
	for _, kind := range append([]int{3, 4, 5, 6, 7, 8, 256}, wild...) {
		checkRefused(t, Block{Kind: kind})
		checkRefused(t, Block{kind, letters("ab"), []byte("ab")})
	}
}

// A text of kind 0 has at most 65535 bytes, of the other kinds as many as there are.
func TestLongTexts(t *testing.T) {
	seed := uint64(4)
	for _, size := range []int{65534, 65535, 65536, 65537, 1 << 18} {
		text := noise(&seed, size, 256)
		tokens := letters(string(text))
		b := Block{0, tokens, text}
		if size > 65535 {
			checkRefused(t, b)
		} else {
			checkBlock(t, b)
		}
		want := 0
		if size > 65535 {
			want = 2
			if count(t, Block{1, tokens, text}) <= count(t, Block{2, tokens, text}) {
				want = 1
			}
		}
		if kind := checkBest(t, tokens, text); kind != want {
			t.Errorf("%d bytes: kind %d, want %d", size, kind, want)
		}
	}
}

func TestWriters(t *testing.T) {
	for kind := range 3 {
		b := Block{kind, letters("ab"), []byte("ab")}
		if err := Write(nil, b, true); err != api.ErrForm {
			t.Errorf("kind %d, no writer: %v", kind, err)
		}
		w := bits.NewWriter(true)
		if err := w.Put(5, 3); err != nil {
			t.Fatal(err)
		}
		if err := Write(w, b, true); err != api.ErrForm || w.Len() != 3 {
			t.Errorf("kind %d, high order: %v, %d bits", kind, err, w.Len()-3)
		}
		if err := Write(nil, Block{Kind: 3}, false); err != api.ErrForm {
			t.Error(err)
		}
	}
}

// P10.1 and P10.2: what is written

func TestKnown(t *testing.T) {
	for _, x := range []struct {
		kind   int
		tokens []api.Token
		text   string
		want   string
	}{
		{0, nil, "", "010000ffff"},
		{1, nil, "", "0300"},
		{1, letters("a"), "a", "4b0400"},
		{0, letters("abc"), "abc", "010300fcff616263"},
		{1, append(letters("aba"), api.Token{Len: 5, Dist: 2}), "abababab", "4b4c4a044300"},
	} {
		w := bits.NewWriter(false)
		if err := Write(w, Block{x.kind, x.tokens, []byte(x.text)}, true); err != nil {
			t.Fatal(err)
		}
		got := ""
		for _, b := range w.Bytes() {
			got += string("0123456789abcdef"[b>>4]) + string("0123456789abcdef"[b&15])
		}
		if got != x.want {
			t.Errorf("kind %d of %v: %s, want %s", x.kind, x.tokens, got, x.want)
		}
	}
}

// Nothing, each byte alone, and each match alone that a symbol begins or ends with.
func TestFewTokens(t *testing.T) {
	checkAll(t, nil, nil)
	checkAll(t, []api.Token{}, []byte{})
	for b := range 256 {
		checkAll(t, []api.Token{{Dist: b}}, []byte{byte(b)})
	}
	for _, length := range lengthBases {
		for _, dist := range distBases {
			x := api.Token{Len: length.least, Dist: dist.least + 1<<dist.extra - 1}
			checkAll(t, []api.Token{x}, bytes.Repeat([]byte{7}, x.Len))
			x = api.Token{Len: min(length.least+1<<length.extra-1, 258), Dist: dist.least}
			checkAll(t, []api.Token{x, x}, bytes.Repeat([]byte{7}, 2*x.Len))
		}
	}
}

// Every length and every distance.
func TestEveryMatch(t *testing.T) {
	var tokens []api.Token
	size := 0
	for dist := 1; dist <= 32768; dist++ {
		x := api.Token{Len: 3 + dist%7, Dist: dist}
		if dist <= 512 {
			x.Len = 3 + dist%256
		}
		tokens = append(tokens, x)
		size += x.Len
	}
	text := make([]byte, size)
	for kind := 1; kind < 3; kind++ {
		b := Block{kind, tokens, text}
		first := make([]byte, 32768)
		checkInflate(t, first, []Block{b})
		want := count(t, b)
		if n := len(write(t, "", b, true)); n != want {
			t.Errorf("kind %d: %d bits, want %d", kind, n, want)
		}
	}
	if got, want := write(t, "", Block{1, tokens, text}, true), plainFixed(tokens, true); got != want {
		t.Error("kind 1 isn't as it should be")
	}
}

// Tokens of many sorts.
func TestMixed(t *testing.T) {
	seed := uint64(5)
	seen := [3]int{}
	for i := range 400 {
		front := noise(&seed, pick(&seed, 1+pick(&seed, 40000)), 250)
		tokens, text := mixed(&seed, front, pick(&seed, 1+i), 1+pick(&seed, 256), 32768)
		seen[checkAll(t, tokens, text)]++
	}
	for i := range 100 {
		text := noise(&seed, i, 256)
		seen[checkAll(t, letters(string(text)), text)]++
	}
	if seen[0] < 10 || seen[1] < 10 || seen[2] < 10 {
		t.Error("kinds", seen)
	}
}

// Symbols of which some occur so often that the others would have codes of more than 15 bits.
func TestSteep(t *testing.T) {
	for _, kinds := range []int{2, 3, 14, 15, 16, 17, 20, 22} {
		tokens := steep(kinds)
		checkAll(t, tokens, expand(nil, tokens))
	}
	// The same for distances.
	var tokens []api.Token
	for _, x := range steep(20) {
		tokens = append(tokens, api.Token{Len: 3, Dist: distBases[x.Dist].least})
	}
	text := bytes.Repeat([]byte{1}, 3*len(tokens))
	checkDynamic(t, tokens, write(t, "", Block{2, tokens, text}, true))
	checkPrices(t, tokens, text)
}

// One symbol, then two, of each sort.
func TestSparse(t *testing.T) {
	for _, some := range [][]api.Token{
		{{Dist: 0}}, {{Dist: 255}}, {{Dist: 0}, {Dist: 255}}, {{Len: 3, Dist: 1}}, {{Len: 258, Dist: 32768}}, {{Len: 3, Dist: 1}, {Len: 258, Dist: 32768}}, {{Len: 3, Dist: 1}, {Len: 4, Dist: 1}}, {{Len: 3, Dist: 1}, {Len: 3, Dist: 2}}, {{Len: 3, Dist: 1}, {Len: 3, Dist: 2}, {Len: 3, Dist: 3}},
	} {
		for _, count := range []int{1, 2, 3, 50} {
			tokens := slices.Repeat(some, count)
			checkAll(t, tokens, expand(make([]byte, 32768), tokens))
		}
	}
	// All symbols.
	var tokens []api.Token
	for b := range 256 {
		tokens = append(tokens, api.Token{Dist: b})
	}
	for _, length := range lengthBases {
		tokens = append(tokens, api.Token{Len: length.least, Dist: 1})
	}
	for _, dist := range distBases {
		tokens = append(tokens, api.Token{Len: 3, Dist: dist.least})
	}
	checkAll(t, tokens, expand(make([]byte, 32768), tokens))
}

// checkInflate writes a text that precedes blocks as blocks of kind 0, and reads all back.
func checkInflate(t *testing.T, first []byte, blocks []Block) {
	t.Helper()
	w := bits.NewWriter(false)
	want := slices.Clone(first)
	tokens := letters(string(first))
	for len(first) > 0 {
		some := min(len(first), 65535)
		if err := Write(w, Block{0, letters(string(first[:some])), first[:some]}, false); err != nil {
			t.Fatal(err)
		}
		first = first[some:]
	}
	for i, b := range blocks {
		at := w.Len()
		if err := Write(w, b, i == len(blocks)-1); err != nil {
			t.Fatal(err)
		}
		if n := count(t, b); w.Len()-at > n || b.Kind > 0 && w.Len()-at < n {
			t.Fatalf("kind %d: %d bits, want %d", b.Kind, w.Len()-at, n)
		}
		want = append(want, b.Text...)
		if b.Kind == 0 {
			tokens = append(tokens, letters(string(b.Text))...)
		} else {
			tokens = append(tokens, b.Tokens...)
		}
	}
	out := w.Bytes()
	text, n, err := inflate.Inflate(out, api.MaxPlain)
	if !bytes.Equal(text, want) || n != len(out) || err != nil {
		t.Fatalf("%d bytes, %d of %d read, %v, want %d", len(text), n, len(out), err, len(want))
	}
	list, err := inflate.Tokens(out, api.MaxPlain)
	if !slices.Equal(list, tokens) || err != nil {
		t.Fatalf("%v, %v, want %v", few(list), err, few(tokens))
	}
	// The library's reader is held to the same.
	if text, err = io.ReadAll(flate.NewReader(bytes.NewReader(out))); !bytes.Equal(text, want) || err != nil {
		t.Fatalf("the library reads %d bytes, %v, want %d", len(text), err, len(want))
	}
}

// Several blocks, each behind what the ones before it come to.
func TestBlocksInRow(t *testing.T) {
	seed := uint64(6)
	for range 150 {
		first := noise(&seed, pick(&seed, 1+pick(&seed, 70000)), 256)
		text := slices.Clone(first)
		var blocks []Block
		for range 1 + pick(&seed, 6) {
			tokens, more := mixed(&seed, text, pick(&seed, 200), 1+pick(&seed, 256), 32768)
			blocks = append(blocks, Block{pick(&seed, 3), tokens, more})
			text = append(text, more...)
		}
		checkInflate(t, first, blocks)
	}
}

// Parses of texts, in all kinds and in the best one.
func TestParses(t *testing.T) {
	seed := uint64(7)
	for _, size := range []int{0, 1, 100, 5000, 65535} {
		for _, kinds := range []int{1, 4, 100, 256} {
			text := noise(&seed, size, kinds)
			copy(text[size/2:], text)
			tokens, err := parse.Greedy(text)
			if err != nil {
				t.Fatal(err)
			}
			best, err := Best(tokens, text)
			if err != nil {
				t.Fatal(err)
			}
			for kind := range 3 {
				b := Block{kind, tokens, text}
				checkInflate(t, nil, []Block{b})
				if count(t, best) > count(t, b) {
					t.Fatalf("the best of %d bytes has more bits than kind %d", size, kind)
				}
			}
			checkInflate(t, nil, []Block{best})
		}
	}
}

// P10.1: prices

// checkPrices holds prices against the lengths that stand in a block of kind 2 of the tokens.
func checkPrices(t *testing.T, tokens []api.Token, text []byte) {
	t.Helper()
	p, err := Prices(tokens)
	if err != nil {
		t.Fatal(err)
	}
	written := write(t, "", Block{2, tokens, text}, true)[3:]
	read, ok := readDynamic(written)
	if !ok {
		t.Fatalf("%v isn't read", few(tokens))
	}
	literals, dists := plainCounts(tokens)
	length := func(counts, lengths []int, symbol int) int {
		if counts[symbol] == 0 {
			return 15
		}
		return lengths[symbol]
	}
	want := parse.Prices{}
	for b := range 256 {
		want.Literals = append(want.Literals, 16*length(literals, read.literals, b))
	}
	for n := range 259 {
		price := 0
		if n >= 3 {
			at := holder(lengthBases, n)
			price = 16 * (length(literals, read.literals, 257+at) + lengthBases[at].extra)
		}
		want.Lengths = append(want.Lengths, price)
	}
	for symbol, b := range distBases {
		want.Dists = append(want.Dists, 16*(length(dists, read.dists, symbol)+b.extra))
	}
	if !slices.Equal(p.Literals, want.Literals) || !slices.Equal(p.Lengths, want.Lengths) || !slices.Equal(p.Dists, want.Dists) {
		t.Fatalf("%v: %v, want %v", few(tokens), p, want)
	}
	// What tokens cost is what they are in the block, but for its end.
	sum, err := parse.Price(tokens, p)
	if bits := len(written) - read.header - read.literals[256]; sum != 16*bits || err != nil {
		t.Fatalf("%v: %d, %v, want 16 times %d", few(tokens), sum, err, bits)
	}
}

func TestPricesKnown(t *testing.T) {
	for _, tokens := range [][]api.Token{nil, {}} {
		p, err := Prices(tokens)
		if err != nil || !slices.Equal(p.Literals, many(256, 240)) || len(p.Lengths) != 259 || len(p.Dists) != 30 {
			t.Fatal(p, err)
		}
		if p.Lengths[3] != 240 || p.Lengths[11] != 256 || p.Lengths[257] != 320 || p.Lengths[258] != 240 || p.Dists[0] != 240 || p.Dists[29] != 448 {
			t.Error(p)
		}
	}
	// a three times; b, the end and the length 11 once each, as is the distance 5. So a has the length 1, and the others have 2, 3 and 3 in some order.
	p, err := Prices([]api.Token{{Dist: 'a'}, {Dist: 'a'}, {Dist: 'a'}, {Dist: 'b'}, {Len: 11, Dist: 5}})
	if err != nil || p.Literals['a'] != 16 || p.Literals['b'] < 32 || p.Literals['b'] > 48 || p.Literals['c'] != 240 {
		t.Error(p, err)
	}
	if p.Lengths[11] != p.Lengths[12] || p.Lengths[11] < 48 || p.Lengths[11] > 64 || p.Lengths[13] != 256 || p.Lengths[3] != 240 || p.Dists[4] != 32 || p.Dists[5] != 256 {
		t.Error(p)
	}
}

// Prices don't ask whether what a match repeats is there.
func TestPricesAnyTokens(t *testing.T) {
	for _, tokens := range [][]api.Token{{{Len: 3, Dist: 32768}}, {{Len: 258, Dist: 1}, {Dist: 'x'}}, {{Dist: 'a'}, {Len: 10, Dist: 10}}} {
		if p, err := Prices(tokens); err != nil || len(p.Literals) != 256 || len(p.Lengths) != 259 || len(p.Dists) != 30 {
			t.Error(tokens, err)
		}
	}
}

// P10.3: the best block

// Texts in which two kinds have equally many bits: the lesser one is taken.
func TestTies(t *testing.T) {
	seed := uint64(8)
	plain, coded := 0, 0
	for range 6000 {
		// 32 literals of nine bits each are as long in kind 1 as in kind 0.
		size := 1 + pick(&seed, 40)
		text := noise(&seed, size, 1+pick(&seed, 112))
		for i := range text {
			text[i] += 144
		}
		if pick(&seed, 2) == 0 {
			text = noise(&seed, size, 1+pick(&seed, 8))
		}
		tokens := letters(string(text))
		kind := checkBest(t, tokens, text)
		sizes := []int{}
		for other := range 3 {
			sizes = append(sizes, count(t, Block{other, tokens, text}))
		}
		if kind == 0 && sizes[0] == sizes[1] {
			plain++
		}
		if kind == 1 && sizes[1] == sizes[2] {
			coded++
		}
	}
	if plain == 0 || coded == 0 {
		t.Errorf("%d times as long in kinds 0 and 1, %d times in 1 and 2", plain, coded)
	}
}

// No kind has fewer bits than the best block, as it is written.
func TestBestWritten(t *testing.T) {
	seed := uint64(9)
	for i := range 300 {
		front := noise(&seed, 300, 256)
		tokens, text := mixed(&seed, front, pick(&seed, 1+i), 1+pick(&seed, 256), 300)
		b, err := Best(tokens, text)
		if err != nil {
			t.Fatal(err)
		}
		// Behind six bits kind 0 has as many up to the end of the byte as are counted.
		least := len(write(t, "111111", b, true))
		for kind := range 3 {
			if n := len(write(t, "111111", Block{kind, tokens, text}, true)); n < least {
				t.Fatalf("%v: %d bits in kind %d, %d in kind %d", few(tokens), n, kind, least, b.Kind)
			}
		}
	}
}

// P10.4

// spare is a list with something in its spare capacity.
func spare[T any](list []T, more ...T) []T { return append(slices.Clone(list), more...)[:len(list)] }

func TestArgumentsStay(t *testing.T) {
	seed := uint64(10)
	for _, size := range []int{0, 1, 10, 300} {
		made, bytesMade := mixed(&seed, noise(&seed, 50, 9), size, 9, 50)
		tokens, text := spare(made, api.Token{Len: 1, Dist: 1}, api.Token{Len: 2, Dist: 2}), spare(bytesMade, 1, 2, 3)
		lengths, runs := spare(many(size, 3), -1, -2), spare(slices.Repeat([]Run{{3, 0}}, size), Run{-1, -1})
		heldTokens, heldText := slices.Clone(tokens[:size+2]), slices.Clone(text[:len(text)+3])
		heldLengths, heldRuns := slices.Clone(lengths[:size+2]), slices.Clone(runs[:size+1])
		same := func() {
			t.Helper()
			if !slices.Equal(tokens[:size+2], heldTokens) || !bytes.Equal(text[:len(text)+3], heldText) || !slices.Equal(lengths[:size+2], heldLengths) || !slices.Equal(runs[:size+1], heldRuns) {
				t.Fatal("an argument is changed")
			}
		}
		r, err := Runs(lengths)
		same()
		l, err2 := Unruns(runs)
		same()
		b, err3 := Best(tokens, text)
		same()
		p, err4 := Prices(tokens)
		same()
		for _, err := range []error{err, err2, err3, err4} {
			if err != nil {
				t.Fatal(err)
			}
		}
		w := bits.NewWriter(false)
		for kind := range 3 {
			count(t, Block{kind, tokens, text})
			if err := Write(w, Block{kind, tokens, text}, false); err != nil {
				t.Fatal(err)
			}
			same()
		}
		checkApart(t, r, l, b, p, w, func() {
			clear(tokens[:size+2])
			clear(text[:len(text)+3])
			clear(lengths[:size+2])
			clear(runs[:size+1])
		})
	}
}

// checkApart tells whether results stay as they are when the arguments are changed.
func checkApart(t *testing.T, r []Run, l []int, b Block, p parse.Prices, w *bits.Writer, change func()) {
	t.Helper()
	heldRuns, heldLengths, heldTokens, heldText := slices.Clone(r), slices.Clone(l), slices.Clone(b.Tokens), slices.Clone(b.Text)
	heldPrices, heldBytes := slices.Concat(p.Literals, p.Lengths, p.Dists), w.Bytes()
	change()
	if !slices.Equal(r, heldRuns) || !slices.Equal(l, heldLengths) || !slices.Equal(b.Tokens, heldTokens) || !bytes.Equal(b.Text, heldText) {
		t.Fatal("a result hangs on an argument")
	}
	if !slices.Equal(slices.Concat(p.Literals, p.Lengths, p.Dists), heldPrices) || !bytes.Equal(w.Bytes(), heldBytes) {
		t.Fatal("a result hangs on an argument")
	}
}

// What is done to one answer is not seen in the arguments, in another answer, or in the next one.
func TestResultsApart(t *testing.T) {
	tokens, text := append(letters("abcabd"), api.Token{Len: 5, Dist: 3}), []byte("abcabdabdab")
	heldTokens, heldText := slices.Clone(tokens), slices.Clone(text)
	lengths, runs := []int{0, 0, 0, 4, 4, 4, 4}, []Run{{17, 0}, {4, 0}, {16, 0}}
	for range 2 {
		b, err := Best(tokens, text)
		if err != nil || !slices.Equal(b.Tokens, heldTokens) || !bytes.Equal(b.Text, heldText) {
			t.Fatal(b, err)
		}
		clear(b.Tokens[:cap(b.Tokens)])
		clear(b.Text[:cap(b.Text)])
		if !slices.Equal(tokens, heldTokens) || !bytes.Equal(text, heldText) {
			t.Fatal("an argument is changed by its result")
		}
		r, err := Runs(lengths)
		if err != nil || !slices.Equal(r, runs) {
			t.Fatal(r, err)
		}
		clear(r[:cap(r)])
		l, err := Unruns(runs)
		if err != nil || !slices.Equal(l, lengths) {
			t.Fatal(l, err)
		}
		clear(l[:cap(l)])
		checkPrices(t, tokens, text)
		p, err := Prices(tokens)
		if err != nil {
			t.Fatal(err)
		}
		lists := [][]int{p.Literals, p.Lengths, p.Dists}
		for i, list := range lists {
			for at := range list[:cap(list)] {
				list[:cap(list)][at] = -1 - i
			}
		}
		for i, list := range lists {
			if slices.ContainsFunc(list, func(n int) bool { return n != -1-i }) {
				t.Fatal("prices share memory")
			}
		}
	}
}

// The same arguments have the same bits.
func TestSameAgain(t *testing.T) {
	seed := uint64(11)
	for range 50 {
		tokens, text := mixed(&seed, noise(&seed, 50, 9), 200, 40, 50)
		a := write(t, "", Block{2, tokens, text}, true)
		if b := write(t, "", Block{2, slices.Clone(tokens), slices.Clone(text)}, true); a != b {
			t.Fatal("other bits")
		}
	}
}
