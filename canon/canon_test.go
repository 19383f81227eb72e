package canon

import (
	"cmp"
	"errors"
	"math"
	"slices"
	"strings"
	"testing"

	"burnish/api"
	"burnish/bits"
)

// bothOrders is the low order, and the high one.
var bothOrders = []bool{false, true}

// pick is a number from 0 to n-1, the same each time for a seed.
func pick(seed *uint64, n int) int {
	*seed = *seed*6364136223846793005 + 1442695040888963407
	return int((*seed >> 33) % uint64(n))
}

// many is a length, so many times.
func many(count, length int) []int { return slices.Repeat([]int{length}, count) }

// stairs is the lengths 1, 2 .. 16 and one more of 16: complete ones.
func stairs() []int {
	var out []int
	for length := range 16 {
		out = append(out, length+1)
	}
	return append(out, 16)
}

// fixed is the literal lengths of deflate's kind 1.
func fixed() []int {
	return slices.Concat(many(144, 8), many(112, 9), many(24, 7), many(8, 8))
}

// someLengths is lengths of so many symbols, of no pattern, which are valid; complete ones if so asked, with at least two codes.
func someLengths(seed *uint64, size int, complete bool) []int {
	out, free := make([]int, size), 1<<16
	if complete {
		// One code of a length is made two that are longer by 1, again and again.
		list := []int{1, 1}
		for range pick(seed, size-1) {
			if i := pick(seed, len(list)); list[i] < 16 {
				list[i]++
				list = append(list, list[i])
			}
		}
		for _, length := range list {
			at := pick(seed, size)
			for out[at] > 0 {
				at = (at + 1) % size
			}
			out[at] = length
		}
		return out
	}
	for range pick(seed, 2*size+1) {
		at, length := pick(seed, size), 1+pick(seed, 16)
		if out[at] == 0 && 1<<(16-length) <= free {
			out[at] = length
			free -= 1 << (16 - length)
		}
	}
	return out
}

// validLengths is ordinary lengths, and those at the edges.
func validLengths() [][]int {
	out := [][]int{
		nil, {}, {0}, {0, 0, 0}, {1}, {16}, {0, 5}, {1, 1}, {0, 1, 0, 1, 0}, {2, 1}, {1, 2}, {2, 2, 2}, {2, 2, 2, 2}, {3, 3, 3, 3, 3, 2, 4, 4}, {1, 0, 3}, {16, 16}, {16, 1}, {1, 16, 16},
		{4, 3, 2, 1}, {2, 3, 3, 2, 16, 0, 9}, {3, 0, 1, 3, 0, 0, 3},
		stairs(), stairs()[:16], slices.Concat(many(200, 0), stairs()), fixed(), many(32, 5), many(30, 5),
		many(512, 0), many(512, 9), many(512, 16), many(511, 9), slices.Concat(many(511, 0), []int{1}), slices.Concat(many(256, 9), many(256, 10)),
	}
	reversed := stairs()
	slices.Reverse(reversed)
	out = append(out, reversed)
	seed := uint64(1)
	for i := range 120 {
		out = append(out, someLengths(&seed, 2+pick(&seed, 20), i%2 == 0))
	}
	for i := range 20 {
		out = append(out, someLengths(&seed, 2+pick(&seed, 511), i%2 == 0))
	}
	return out
}

// invalidLengths is lengths with one fault each.
func invalidLengths() [][]int {
	out := [][]int{
		{17}, {-1}, {1, 17}, {17, 1}, {1, -1}, {-1, 1, 1}, {1, 1, -1}, {0, 18}, {32}, {64}, {65}, {256}, {-16}, {-17}, {-64}, {math.MaxInt}, {math.MinInt}, {math.MinInt + 1}, {1 << 32}, {1<<32 + 1}, {-1 << 32},
		{1, 1, 1}, {1, 1, 16}, {16, 1, 1}, {1, 2, 2, 16}, {2, 2, 2, 2, 2}, slices.Concat(stairs(), []int{16}), slices.Concat(stairs(), []int{1}), many(512, 1), many(512, 8), slices.Concat(many(511, 9), []int{8}),
		many(513, 0), many(513, 16), many(1<<20, 0), many(1<<20, 1), slices.Concat(many(512, 0), []int{1}), slices.Concat(fixed(), []int{16}),
	}
	return out
}

// plainFree is the free amount as the document defines it.
func plainFree(lengths []int) int {
	sum := 0
	for _, length := range lengths {
		if length > 0 {
			sum += 1 << (16 - length)
		}
	}
	return 1<<16 - sum
}

// plainOrder is the symbols that have codes, by their lengths, and by themselves.
func plainOrder(lengths []int) []int {
	var out []int
	for symbol, length := range lengths {
		if length > 0 {
			out = append(out, symbol)
		}
	}
	slices.SortFunc(out, func(a, b int) int {
		return cmp.Or(cmp.Compare(lengths[a], lengths[b]), cmp.Compare(a, b))
	})
	return out
}

// plainNext is the text of 0 and 1 that is 1 more.
func plainNext(text string) string {
	at := strings.LastIndexByte(text, '0')
	if at < 0 {
		return "overflow"
	}
	return text[:at] + "1" + strings.Repeat("0", len(text)-at-1)
}

// plainCodes is the codes of symbols in their order, as texts of 0 and 1, as the document assigns them.
func plainCodes(order, lengths []int) map[int]string {
	out := map[int]string{}
	last := ""
	for i, symbol := range order {
		if i > 0 {
			last = plainNext(last)
		}
		last += strings.Repeat("0", lengths[symbol]-len(last))
		out[symbol] = last
	}
	return out
}

// plainNumber is the number of a text of 0 and 1.
func plainNumber(text string) int {
	n := 0
	for _, c := range text {
		n = 2*n + int(c-'0')
	}
	return n
}

// written is a reader of the bits of a text of 0 and 1, which end with it.
func written(t *testing.T, text string, high bool) *bits.Reader {
	t.Helper()
	w := bits.NewWriter(high)
	// What would complete the last byte stands before the text instead, and is read ahead.
	ahead := -len(text) & 7
	if err := w.Put(0, ahead); err != nil {
		t.Fatal(err)
	}
	for _, c := range text {
		if err := w.Put(int(c-'0'), 1); err != nil {
			t.Fatal(err)
		}
	}
	r := bits.NewReader(w.Bytes(), high)
	if _, err := r.Take(ahead); err != nil {
		t.Fatal(err)
	}
	return r
}

// plainTree is the beginnings of codes, each with -1, and whole codes with their symbols.
func plainTree(codes map[int]string) map[string]int {
	out := map[string]int{}
	for symbol, code := range codes {
		for i := range code {
			out[code[:i]] = -1
		}
		out[code] = symbol
	}
	return out
}

// plainRead is what Read answers for a text of 0 and 1: the symbol, how many bits are read, and the error.
func plainRead(tree map[string]int, text string) (int, int, error) {
	for n := 0; ; n++ {
		symbol, begun := tree[text[:n]]
		switch {
		case !begun:
			return 0, n, api.ErrMalformed
		case symbol >= 0:
			return symbol, n, nil
		case n == len(text):
			return 0, n, api.ErrEnd
		}
	}
}

// wild is numbers that are no symbol of any book.
var wild = []int{-1, -2, -256, -512, math.MinInt32, math.MinInt, math.MinInt + 1, 512, 513, 1 << 16, 1 << 31, 1 << 32, 1<<32 + 1, math.MaxInt - 1, math.MaxInt}

// checkBook holds what a book tells against the symbols in the order of their codes, and against these.
func checkBook(t *testing.T, b *Book, order []int, codes map[int]string) {
	t.Helper()
	var got []int
	for symbol, length := range b.All() {
		if length != len(codes[symbol]) {
			t.Fatalf("All: symbol %d has length %d, want %q", symbol, length, codes[symbol])
		}
		got = append(got, symbol)
	}
	if !slices.Equal(got, order) {
		t.Fatalf("All: %v, want %v", got, order)
	}
	for _, symbol := range slices.Concat(wild, upTo(520)) {
		if n := b.Length(symbol); n != len(codes[symbol]) {
			t.Fatalf("Length(%d): %d, want %q", symbol, n, codes[symbol])
		}
		for _, high := range bothOrders {
			checkWrite(t, b, symbol, codes[symbol], high)
		}
	}
}

// upTo is the numbers from 0 to n-1.
func upTo(n int) []int {
	out := make([]int, n)
	for i := range out {
		out[i] = i
	}
	return out
}

// checkWrite writes a symbol at each place within a byte; a code without bits: there is none.
func checkWrite(t *testing.T, b *Book, symbol int, code string, high bool) {
	t.Helper()
	for before := range 8 {
		w := bits.NewWriter(high)
		if err := w.Put(0, before); err != nil {
			t.Fatal(err)
		}
		err := b.Write(w, symbol)
		if code == "" {
			if err != api.ErrForm || w.Len() != before {
				t.Fatalf("Write(%d): %v, %d bits", symbol, err, w.Len()-before)
			}
			return
		}
		if err != nil || w.Len() != before+len(code) {
			t.Fatalf("Write(%d): %v, %d bits, want %s", symbol, err, w.Len()-before, code)
		}
		r := bits.NewReader(w.Bytes(), high)
		if _, err := r.Take(before); err != nil {
			t.Fatal(err)
		}
		for i, c := range code {
			if bit, err := r.Take(1); bit != int(c-'0') || err != nil {
				t.Fatalf("Write(%d), high %v: bit %d is %d, want %s", symbol, high, i, bit, code)
			}
		}
	}
}

// checkRead holds Read of a text of 0 and 1 against the tree of the codes.
func checkRead(t *testing.T, b *Book, tree map[string]int, text string) {
	t.Helper()
	for _, high := range bothOrders {
		r := written(t, text, high)
		from := r.At()
		n, err := b.Read(r)
		if symbol, count, want := plainRead(tree, text); n != symbol || err != want || r.At() != from+count {
			t.Fatalf("high %v: %s read as %d, %v with %d bits, want %d, %v with %d, of %v", high, text, n, err, r.At()-from, symbol, want, count, tree)
		}
	}
}

// checkReads reads a book's codes with and without something behind them, cut off and with one bit changed, and all short texts.
func checkReads(t *testing.T, b *Book, codes map[int]string) {
	t.Helper()
	texts := []string{"", strings.Repeat("0", 20), strings.Repeat("1", 20)}
	for short := []string{""}; len(short[0]) < 6; {
		var longer []string
		for _, s := range short {
			longer = append(longer, s+"0", s+"1")
		}
		texts = append(texts, longer...)
		short = longer
	}
	for _, code := range codes {
		texts = append(texts, code, code+"0", code+"1011", code[:len(code)-1])
		if len(codes) < 40 {
			for i := range code {
				texts = append(texts, code[:i], code[:i]+"1111", code[:i]+string('0'+'1'-code[i])+code[i+1:]+"01")
			}
			texts = append(texts, plainNext(code+"0"), plainNext(code+"1"))
		}
	}
	tree := plainTree(codes)
	for _, text := range texts {
		if text != "overflow" {
			checkRead(t, b, tree, text)
		}
	}
}

// P4.1: lengths

func TestFree(t *testing.T) {
	for _, x := range []struct {
		lengths []int
		want    int
	}{
		{nil, 65536}, {[]int{0}, 65536}, {many(512, 0), 65536}, {[]int{1}, 32768}, {[]int{16}, 65535}, {[]int{1, 1}, 0}, {[]int{1, 0, 3}, 24576}, {[]int{3, 3, 3, 3, 3, 2, 4, 4}, 0},
		{stairs(), 0}, {stairs()[:16], 1}, {fixed(), 0}, {many(30, 5), 4096}, {many(512, 9), 0}, {many(511, 9), 128}, {many(512, 16), 65024},
	} {
		if n, err := Free(x.lengths); n != x.want || err != nil {
			t.Errorf("%v: %d %v, want %d", x.lengths, n, err, x.want)
		}
	}
	for _, lengths := range validLengths() {
		if n, err := Free(lengths); n != plainFree(lengths) || err != nil {
			t.Errorf("%v: %d %v, want %d", lengths, n, err, plainFree(lengths))
		}
	}
}

func TestCodesKnown(t *testing.T) {
	for _, x := range []struct{ lengths, want []int }{
		{nil, nil}, {[]int{0}, []int{0}}, {[]int{0, 0, 0}, []int{0, 0, 0}}, {[]int{1}, []int{0}}, {[]int{16}, []int{0}}, {[]int{0, 5, 0}, []int{0, 0, 0}}, {[]int{1, 1}, []int{0, 1}},
		{[]int{3, 3, 3, 3, 3, 2, 4, 4}, []int{2, 3, 4, 5, 6, 0, 14, 15}},
		{[]int{2, 1, 3, 3}, []int{2, 0, 6, 7}},
		{[]int{1, 0, 3}, []int{0, 0, 4}},
		{[]int{16, 0, 1}, []int{0x8000, 0, 0}},
		{[]int{3, 3, 2, 0, 2, 2}, []int{6, 7, 0, 0, 1, 2}},
	} {
		c, err := Codes(x.lengths)
		if !slices.Equal(c, x.want) || err != nil {
			t.Errorf("%v: %v %v, want %v", x.lengths, c, err, x.want)
		}
	}
	c, err := Codes(fixed())
	if err != nil || len(c) != 288 {
		t.Fatal(len(c), err)
	}
	for symbol, want := range map[int]int{0: 0x30, 143: 0xbf, 144: 0x190, 255: 0x1ff, 256: 0, 279: 0x17, 280: 0xc0, 287: 0xc7} {
		if c[symbol] != want {
			t.Errorf("fixed %d: %x, want %x", symbol, c[symbol], want)
		}
	}
	c, err = Codes(stairs())
	if err != nil || c[0] != 0 || c[1] != 2 || c[14] != 0x7ffe || c[15] != 0xfffe || c[16] != 0xffff {
		t.Errorf("%x %v", c, err)
	}
}

func TestCodesAndBooks(t *testing.T) {
	for _, lengths := range validLengths() {
		order := plainOrder(lengths)
		codes := plainCodes(order, lengths)
		c, err := Codes(lengths)
		if err != nil || len(c) != len(lengths) {
			t.Fatalf("%v: %v %v", lengths, c, err)
		}
		for symbol, n := range c {
			if n != plainNumber(codes[symbol]) {
				t.Fatalf("%v: symbol %d has %b, want %q", lengths, symbol, n, codes[symbol])
			}
		}
		b, err := NewBook(lengths)
		if err != nil {
			t.Fatalf("%v: %v", lengths, err)
		}
		checkBook(t, b, order, codes)
		checkReads(t, b, codes)
	}
}

func TestRefusesLengths(t *testing.T) {
	for _, lengths := range invalidLengths() {
		some := lengths[:min(30, len(lengths))]
		if n, err := Free(lengths); n != 0 || err != api.ErrForm {
			t.Errorf("Free of %d like %v: %d %v", len(lengths), some, n, err)
		}
		if c, err := Codes(lengths); len(c) != 0 || err != api.ErrForm {
			t.Errorf("Codes of %d like %v: %v %v", len(lengths), some, c, err)
		}
		if b, err := NewBook(lengths); b != nil || err != api.ErrForm {
			t.Errorf("NewBook of %d like %v: %v %v", len(lengths), some, b, err)
		}
	}
}

// All lengths of up to five symbols from -1 to 5, and 16 and 17, are valid or not as the document says.
func TestAllShortLengths(t *testing.T) {
	values := []int{-1, 0, 1, 2, 3, 4, 5, 16, 17}
	lists := [][]int{{}}
	for from := 0; len(lists[from]) < 5; from++ {
		for _, x := range values {
			lists = append(lists, append(slices.Clone(lists[from]), x))
		}
	}
	for _, lengths := range lists {
		valid := len(lengths) == 0 || slices.Min(lengths) >= 0 && slices.Max(lengths) <= 16 && plainFree(lengths) >= 0
		n, err := Free(lengths)
		_, errCodes := Codes(lengths)
		_, errBook := NewBook(lengths)
		if valid && (n != plainFree(lengths) || errors.Join(err, errCodes, errBook) != nil) || !valid && (n != 0 || err != api.ErrForm || errCodes != api.ErrForm || errBook != api.ErrForm) {
			t.Fatal(lengths, valid, n, err, errCodes, errBook)
		}
	}
}

// P4.1: tables

// table is a JPEG's table of counts and symbols.
func table(symbols []byte, counts ...int) api.Codes {
	c := api.Codes{Symbols: symbols}
	copy(c.Counts[:], counts)
	return c
}

// allBytes is the bytes 0 to 255.
func allBytes() []byte {
	out := make([]byte, 256)
	for i := range out {
		out[i] = byte(i)
	}
	return out
}

// someTable is a valid table of no pattern.
func someTable(seed *uint64) api.Codes {
	c, all, free := api.Codes{}, allBytes(), 1<<16
	for i := range c.Counts {
		if pick(seed, 3) == 0 {
			continue
		}
		most := min(len(all), (free-1)>>(15-i))
		if pick(seed, 3) > 0 {
			most = min(most, 3)
		}
		c.Counts[i] = pick(seed, most+1)
		free -= c.Counts[i] << (15 - i)
		for range c.Counts[i] {
			at := pick(seed, len(all))
			c.Symbols = append(c.Symbols, all[at])
			all = slices.Delete(all, at, at+1)
		}
	}
	return c
}

// validTables is ordinary tables, and those at the edges.
func validTables() []api.Codes {
	out := []api.Codes{
		{}, table([]byte{}), table([]byte{0}, 1), table([]byte{255}, 0, 1), table([]byte{7}, 0, 0, 0, 0, 0, 0, 0, 0, 0, 0, 0, 0, 0, 0, 0, 1),
		table([]byte{9, 3, 200}, 0, 2, 1), table([]byte{3, 2, 1}, 0, 3), table([]byte{1, 2, 3}, 1, 1, 1), table([]byte{3, 2, 1}, 1, 1, 1),
		table([]byte{0, 1, 2, 3, 4, 5, 6, 7, 8, 9, 10, 11}, 0, 1, 5, 1, 1, 1, 1, 1, 1), // dcs of brightness, as is usual
		table([]byte{0, 1, 2, 3, 4, 5, 6, 7, 8, 9, 10, 11}, 0, 3, 1, 1, 1, 1, 1, 1, 1, 1, 1),
		table(allBytes()[:16], 1, 1, 1, 1, 1, 1, 1, 1, 1, 1, 1, 1, 1, 1, 1, 1), // one more of 16 bits would be all 1
		table(allBytes(), 0, 0, 0, 0, 0, 0, 0, 255, 1),
		table(allBytes(), 0, 0, 0, 0, 0, 0, 0, 0, 256),
		table(allBytes(), 0, 0, 0, 0, 0, 0, 0, 0, 0, 0, 0, 0, 0, 0, 0, 256),
		table(allBytes()[:255], 0, 0, 0, 0, 0, 0, 0, 255),
	}
	down := allBytes()
	slices.Reverse(down)
	out = append(out, table(down, 0, 0, 0, 0, 0, 0, 0, 254, 2), table(down, 0, 0, 0, 0, 2, 10, 20, 84, 140))
	seed := uint64(2)
	for range 100 {
		out = append(out, someTable(&seed))
	}
	return out
}

// plainTable is a table's symbols in the order of their codes, and these.
func plainTable(c api.Codes) ([]int, map[int]string) {
	var order []int
	lengths := make([]int, 256)
	for i, count := range c.Counts {
		for range count {
			symbol := int(c.Symbols[len(order)])
			order = append(order, symbol)
			lengths[symbol] = i + 1
		}
	}
	return order, plainCodes(order, lengths)
}

func TestTables(t *testing.T) {
	for _, c := range validTables() {
		b, err := NewTable(c)
		if err != nil {
			t.Fatal(c, err)
		}
		order, codes := plainTable(c)
		checkBook(t, b, order, codes)
		checkReads(t, b, codes)
	}
}

func TestTableKnown(t *testing.T) {
	b, err := NewTable(table([]byte{0, 1, 2, 3, 4, 5, 6, 7, 8, 9, 10, 11}, 0, 1, 5, 1, 1, 1, 1, 1, 1))
	if err != nil {
		t.Fatal(err)
	}
	for symbol, code := range []string{"00", "010", "011", "100", "101", "110", "1110", "11110", "111110", "1111110", "11111110", "111111110"} {
		checkWrite(t, b, symbol, code, true)
		if n, err := b.Read(written(t, code, true)); n != symbol || err != nil {
			t.Error(symbol, n, err)
		}
	}
	// Symbols of one length keep their order here, and have that of their numbers in a book of lengths.
	b, err = NewTable(table([]byte{200, 3, 9}, 0, 2, 1))
	if err != nil {
		t.Fatal(err)
	}
	for symbol, code := range map[int]string{200: "00", 3: "01", 9: "100", 0: "", 1: "", 255: ""} {
		checkWrite(t, b, symbol, code, true)
	}
}

func TestRefusesTables(t *testing.T) {
	list := []api.Codes{
		table(nil, 1), table([]byte{1}), table([]byte{1, 2}, 0, 1), table([]byte{1}, 0, 2), table([]byte{1, 2, 3}, 0, 1, 1), table([]byte{1}, 0, 1, 1), // counts that aren't those of the symbols
		table(nil, -1), table(nil, 1, -1), table([]byte{1}, 2, -1), table([]byte{1}, -1, 2), table([]byte{1}, 0, 1, -1), table([]byte{1, 2}, 0, 3, -1), table([]byte{1}, 0, math.MinInt),
		table([]byte{1, 1}, 0, 2), table([]byte{1, 2, 1}, 0, 2, 1), table([]byte{0, 0}, 0, 1, 1), table([]byte{5, 5}, 1, 0, 1),
		table([]byte{1, 2, 3}, 3), table([]byte{1, 2, 3, 4}, 0, 5), table([]byte{1, 2, 3, 4, 5}, 0, 5), table([]byte{1, 2, 3}, 2, 1), table([]byte{1, 2, 3}, 2, 0, 0, 0, 0, 0, 0, 0, 0, 0, 0, 0, 0, 0, 0, 1),
		table([]byte{1, 2}, 2), table([]byte{1, 2, 3}, 1, 2), table([]byte{1, 2, 3, 4}, 0, 4), table(allBytes(), 0, 0, 0, 0, 0, 0, 0, 256), // the last code is all 1
		table(allBytes()[:17], 1, 1, 1, 1, 1, 1, 1, 1, 1, 1, 1, 1, 1, 1, 1, 2),
		table(append(allBytes(), 0), 0, 0, 0, 0, 0, 0, 0, 0, 257), table(make([]byte, 1<<20), 0, 0, 0, 0, 0, 0, 0, 0, 0, 0, 0, 0, 0, 0, 0, 1<<20),
		// Sums that wrap round to what is asked.
		table(nil, 1<<62, 1<<62, 1<<62, 1<<62), table([]byte{1, 2}, 1<<62, 1<<62, 1<<62, 1<<62, 2), table([]byte{1, 2}, 2, 1<<62, 1<<62, 1<<62, 1<<62), table([]byte{1}, 0, math.MaxInt, math.MaxInt, 3),
		table([]byte{1}, math.MaxInt), table([]byte{1}, 0, 0, 0, 0, 0, 0, 0, 0, 0, 0, 0, 0, 0, 0, 0, math.MaxInt), table([]byte{1}, 1<<49, 1), table(nil, 0, math.MinInt, math.MinInt), table([]byte{1}, 1, math.MinInt, math.MinInt),
	}
	for i, c := range list {
		if b, err := NewTable(c); b != nil || err != api.ErrForm {
			t.Errorf("%d: %.20v: %v %v", i, c, b, err)
		}
	}
	// A valid table with one fault put into it.
	for _, valid := range validTables() {
		for i := range valid.Counts {
			for _, more := range []int{1, -1, -1 - valid.Counts[i], 1 << 32, math.MinInt} {
				c := valid
				c.Counts[i] += more
				if b, err := NewTable(c); b != nil || err != api.ErrForm {
					t.Fatal(c, b, err)
				}
			}
		}
		for from, symbol := range valid.Symbols {
			c := api.Codes{Counts: valid.Counts, Symbols: slices.Clone(valid.Symbols)}
			c.Symbols[len(c.Symbols)-1-from] = symbol
			if b, err := NewTable(c); 2*from+1 != len(c.Symbols) && (b != nil || err != api.ErrForm) {
				t.Fatal(c, b, err)
			}
		}
	}
}

// P4.1: books

// Where no code begins with what was read, the bit that decides it is the last one read.
func TestReadKnown(t *testing.T) {
	for _, x := range []struct {
		lengths []int
		text    string
		symbol  int
		at      int
		err     error
	}{
		{nil, "", 0, 0, api.ErrMalformed}, {nil, "01", 0, 0, api.ErrMalformed}, {[]int{0, 0}, "11", 0, 0, api.ErrMalformed},
		{[]int{0, 1}, "", 0, 0, api.ErrEnd}, {[]int{0, 1}, "0", 1, 1, nil}, {[]int{0, 1}, "1", 0, 1, api.ErrMalformed}, {[]int{0, 1}, "10", 0, 1, api.ErrMalformed},
		{[]int{2, 2, 2}, "1", 0, 1, api.ErrEnd}, {[]int{2, 2, 2}, "10", 2, 2, nil}, {[]int{2, 2, 2}, "11", 0, 2, api.ErrMalformed}, {[]int{2, 2, 2}, "111", 0, 2, api.ErrMalformed},
		{[]int{1, 0, 3}, "100", 2, 3, nil}, {[]int{1, 0, 3}, "10", 0, 2, api.ErrEnd}, {[]int{1, 0, 3}, "101", 0, 3, api.ErrMalformed}, {[]int{1, 0, 3}, "11", 0, 2, api.ErrMalformed}, {[]int{1, 0, 3}, "110", 0, 2, api.ErrMalformed},
		{[]int{16}, "0000000000000000", 0, 16, nil}, {[]int{16}, "000000000000000", 0, 15, api.ErrEnd}, {[]int{16}, "0000000000000001", 0, 16, api.ErrMalformed}, {[]int{16}, "001", 0, 3, api.ErrMalformed}, {[]int{16}, "1", 0, 1, api.ErrMalformed},
		{stairs(), "1111111111111111", 16, 16, nil}, {stairs(), "1111111111111110", 15, 16, nil}, {stairs(), "111111111111111", 0, 15, api.ErrEnd}, {stairs(), "1110111", 3, 4, nil},
		{stairs()[:16], "1111111111111111", 0, 16, api.ErrMalformed}, {stairs()[:16], "11111111111111110", 0, 16, api.ErrMalformed}, {stairs()[:16], "1111111111111110", 15, 16, nil},
	} {
		b, err := NewBook(x.lengths)
		if err != nil {
			t.Fatal(err)
		}
		for _, high := range bothOrders {
			r := written(t, x.text, high)
			from := r.At()
			if n, err := b.Read(r); n != x.symbol || err != x.err || r.At() != from+x.at {
				t.Errorf("%v: %s read as %d, %v with %d bits, want %d, %v with %d", x.lengths, x.text, n, err, r.At()-from, x.symbol, x.err, x.at)
			}
		}
	}
}

func TestAllStops(t *testing.T) {
	b, err := NewBook([]int{3, 3, 3, 3, 3, 2, 4, 4})
	if err != nil {
		t.Fatal(err)
	}
	order, all := []int{5, 0, 1, 2, 3, 4, 6, 7}, b.All()
	for stop := range 9 {
		n := 0
		for symbol := range all { // the same iterator begins anew
			if n == stop {
				break
			}
			if symbol != order[n] {
				t.Fatal(symbol, n)
			}
			n++
		}
		if n != stop {
			t.Fatal(n, stop)
		}
	}
	pairs := 0
	for range all { // and one loop within another
		for range b.All() {
			pairs++
		}
	}
	if pairs != 64 {
		t.Error(pairs)
	}
}

func TestNil(t *testing.T) {
	var none *Book
	for _, high := range bothOrders {
		w, r := bits.NewWriter(high), bits.NewReader([]byte{0, 255}, high)
		for _, symbol := range slices.Concat(wild, upTo(520)) {
			if err := none.Write(w, symbol); err != api.ErrForm || w.Len() != 0 {
				t.Error(symbol, err)
			}
			if err := none.Write(nil, symbol); err != api.ErrForm {
				t.Error(symbol, err)
			}
			if n := none.Length(symbol); n != 0 {
				t.Error(symbol, n)
			}
		}
		if n, err := none.Read(r); n != 0 || err != api.ErrMalformed || r.At() != 0 {
			t.Error(n, err, r.At())
		}
	}
	if n, err := none.Read(nil); n != 0 || err != api.ErrMalformed {
		t.Error(n, err)
	}
	for symbol, length := range none.All() {
		t.Error(symbol, length)
	}
	for _, lengths := range validLengths() {
		b, err := NewBook(lengths)
		if err != nil {
			t.Fatal(err)
		}
		for symbol := range 520 {
			if err := b.Write(nil, symbol); err != api.ErrForm {
				t.Fatal(symbol, err)
			}
		}
		if n, err := b.Read(nil); plainFree(lengths) < 1<<16 && (n != 0 || err != api.ErrEnd) {
			t.Fatal(lengths, n, err)
		}
	}
}

// P4.2

func TestNoCodeIsPrefix(t *testing.T) {
	for _, lengths := range validLengths() {
		c, err := Codes(lengths)
		if err != nil {
			t.Fatal(err)
		}
		for a, x := range c {
			for b, y := range c {
				if a != b && lengths[a] > 0 && lengths[b] >= lengths[a] && y>>(lengths[b]-lengths[a]) == x {
					t.Fatalf("%v: %d of symbol %d begins %d of symbol %d", lengths, x, a, y, b)
				}
			}
			if x < 0 || x >= 1<<lengths[a] {
				t.Fatalf("%v: %d has more than %d bits", lengths, x, lengths[a])
			}
		}
	}
}

// books is books of all kinds, with the symbols that have codes.
func books(t *testing.T) ([]*Book, [][]int) {
	t.Helper()
	var list []*Book
	var symbols [][]int
	for _, lengths := range validLengths() {
		b, err := NewBook(lengths)
		if err != nil {
			t.Fatal(err)
		}
		list, symbols = append(list, b), append(symbols, plainOrder(lengths))
	}
	for _, c := range validTables() {
		b, err := NewTable(c)
		if err != nil {
			t.Fatal(err)
		}
		order, _ := plainTable(c)
		list, symbols = append(list, b), append(symbols, order)
	}
	return list, symbols
}

func TestWrittenIsRead(t *testing.T) {
	seed := uint64(3)
	list, symbols := books(t)
	for i, b := range list {
		for _, high := range bothOrders {
			if len(symbols[i]) == 0 {
				continue
			}
			w, length := bits.NewWriter(high), 0
			text := slices.Clone(symbols[i])
			for range 300 {
				text = append(text, symbols[i][pick(&seed, len(symbols[i]))])
			}
			for _, symbol := range text {
				if err := b.Write(w, symbol); err != nil {
					t.Fatal(symbol, err)
				}
				length += b.Length(symbol)
			}
			if w.Len() != length {
				t.Fatalf("%d bits, want %d", w.Len(), length)
			}
			r := bits.NewReader(w.Bytes(), high)
			for at, symbol := range text {
				if n, err := b.Read(r); n != symbol || err != nil {
					t.Fatalf("high %v: symbol %d is %d %v, want %d", high, at, n, err, symbol)
				}
			}
			if r.At() != length {
				t.Fatalf("%d bits read, want %d", r.At(), length)
			}
		}
	}
}

// Bits of one stream may be those of several books and numbers between them.
func TestWrittenIsReadAmongOthers(t *testing.T) {
	seed := uint64(4)
	list, symbols := books(t)
	for _, high := range bothOrders {
		w := bits.NewWriter(high)
		var steps [][2]int // which book, and the symbol; a book of -1: a number of 7 bits
		for range 5000 {
			i := pick(&seed, len(list)+20) - 20
			if i < 0 || len(symbols[i]) == 0 {
				n := pick(&seed, 128)
				if err := w.Put(n, 7); err != nil {
					t.Fatal(err)
				}
				steps = append(steps, [2]int{-1, n})
				continue
			}
			symbol := symbols[i][pick(&seed, len(symbols[i]))]
			if err := list[i].Write(w, symbol); err != nil {
				t.Fatal(err)
			}
			steps = append(steps, [2]int{i, symbol})
		}
		r := bits.NewReader(w.Bytes(), high)
		for _, s := range steps {
			n, err := 0, error(nil)
			if s[0] < 0 {
				n, err = r.Take(7)
			} else {
				n, err = list[s[0]].Read(r)
			}
			if n != s[1] || err != nil {
				t.Fatalf("high %v: %d %v, want %d", high, n, err, s[1])
			}
		}
	}
}

// For complete lengths every sequence of bits begins with a code, or is the beginning of one.
func TestCompleteReadsAll(t *testing.T) {
	seed := uint64(5)
	complete := 0
	for _, lengths := range validLengths() {
		if plainFree(lengths) > 0 {
			continue
		}
		complete++
		b, err := NewBook(lengths)
		if err != nil {
			t.Fatal(err)
		}
		longest := slices.Max(lengths)
		for i := range 1 << min(longest, 11) { // every beginning, then bits of no pattern
			in := make([]byte, 40)
			for j := range in {
				in[j] = byte(pick(&seed, 256))
			}
			in[0], in[1] = byte(i), byte(i>>8)
			for _, high := range bothOrders {
				r := bits.NewReader(in, high)
				for {
					left := r.Left()
					n, err := b.Read(r)
					if err == api.ErrEnd && left < longest && r.Left() == 0 {
						break
					}
					if err != nil || r.Left() != left-lengths[n] {
						t.Fatalf("%v: %d %v with %d bits of %d", lengths, n, err, left-r.Left(), left)
					}
				}
			}
		}
	}
	if complete < 60 {
		t.Error("only", complete)
	}
}

// P4.3

// spoil writes over numbers, and over the room behind them.
func spoil[T int | byte](list []T) {
	list = list[:cap(list)]
	for i := range list {
		list[i] ^= 0x5a
	}
}

// roomy is numbers with others in the room behind them.
func roomy[T int | byte](list []T) []T {
	return append(slices.Clone(list), 1, 2, 3, 4, 5, 6, 7)[:len(list)]
}

func TestLengthsStay(t *testing.T) {
	for _, lengths := range append(validLengths(), invalidLengths()...) {
		in := roomy(lengths)
		held := slices.Clone(in[:cap(in)])
		_, errFree := Free(in)
		first, errFirst := Codes(in)
		second, errSecond := Codes(in)
		b, errBook := NewBook(in)
		if !slices.Equal(in[:cap(in)], held) {
			t.Fatal("written over", lengths)
		}
		if errors.Join(errFree, errFirst, errSecond, errBook) != nil {
			continue
		}
		spoil(first)
		spoil(in)
		order := plainOrder(lengths)
		codes := plainCodes(order, lengths)
		for symbol, n := range second {
			if n != plainNumber(codes[symbol]) {
				t.Fatal("two answers share memory, or one with the argument", lengths)
			}
		}
		checkBook(t, b, order, codes)
		tree := plainTree(codes)
		for _, code := range codes {
			checkRead(t, b, tree, code)
		}
	}
}

func TestTableStays(t *testing.T) {
	for _, c := range validTables() {
		order, codes := plainTable(c)
		in := api.Codes{Counts: c.Counts, Symbols: roomy(c.Symbols)}
		held := slices.Clone(in.Symbols[:cap(in.Symbols)])
		b, err := NewTable(in)
		if err != nil || !slices.Equal(in.Symbols[:cap(in.Symbols)], held) {
			t.Fatal("written over", c, err)
		}
		spoil(in.Symbols)
		in.Counts = [16]int{}
		checkBook(t, b, order, codes)
		tree := plainTree(codes)
		for _, code := range codes {
			checkRead(t, b, tree, code)
		}
	}
}

// A book is the same after each call, and books hold what is theirs alone.
func TestBooksStay(t *testing.T) {
	one, errOne := NewBook([]int{2, 1, 2})
	two, errTwo := NewTable(table([]byte{2, 1, 0}, 0, 3))
	if err := errors.Join(errOne, errTwo); err != nil {
		t.Fatal(err)
	}
	oneCodes, twoCodes := map[int]string{1: "0", 0: "10", 2: "11"}, map[int]string{2: "00", 1: "01", 0: "10"}
	for range 3 {
		checkBook(t, one, []int{1, 0, 2}, oneCodes)
		checkReads(t, one, oneCodes)
		checkBook(t, two, []int{2, 1, 0}, twoCodes)
		checkReads(t, two, twoCodes)
	}
}
