package merge

import (
	"math"
	"slices"
	"testing"

	"burnish/api"
	"burnish/canon"
)

// never is the cost of lengths that there aren't.
const never = math.MaxInt

// pick is a number from 0 to n-1, the same each time for a seed.
func pick(seed *uint64, n int) int {
	*seed = *seed*6364136223846793005 + 1442695040888963407
	return int((*seed >> 33) % uint64(n))
}

// many is a number, so many times.
func many(size, n int) []int { return slices.Repeat([]int{n}, size) }

// row is numbers by their places.
func row(size int, f func(i int) int) []int {
	out := make([]int, size)
	for i := range out {
		out[i] = f(i)
	}
	return out
}

// fibonacci is counts whose best codes are as long as can be.
func fibonacci(size int) []int {
	a, b := 1, 1
	return row(size, func(int) int {
		n := a
		a, b = b, a+b
		return n
	})
}

// someCounts is so many counts of no pattern, some of them 0, up to the number of bits.
func someCounts(seed *uint64, size, width int) []int {
	none := pick(seed, 4)
	return row(size, func(int) int {
		if pick(seed, 4) < none {
			return 0
		}
		return pick(seed, 1<<(1+pick(seed, min(width, 30)))) << (width - min(width, 30))
	})
}

// smallCounts is ordinary counts of some symbols, and those at the edges.
func smallCounts() [][]int {
	out := [][]int{
		nil, {}, {0}, {0, 0}, many(256, 0), {1}, {7}, {1 << 40}, {0, 5, 0}, {0, 0, 0, 9}, {9, 0, 0}, slices.Concat(many(255, 0), []int{3}),
		{1, 1}, {1, 1 << 40}, {1 << 40, 1}, {1 << 40, 1 << 40}, {0, 2, 0, 1, 0}, slices.Concat([]int{1}, many(254, 0), []int{2}),
		{1, 1, 1}, {1, 2, 3}, {3, 2, 1}, {0, 1, 1, 5, 0}, {1 << 40, 1, 1 << 40}, {1 << 40, 1 << 40, 1 << 40}, {1<<40 - 1, 1 << 40, 1<<40 - 1},
		{1, 1, 2, 4}, {4, 2, 1, 1}, {1, 1, 1, 1}, {1, 1, 1, 2}, {2, 2, 2, 1}, {5, 5, 5, 4}, {1, 1, 2, 3, 5, 8, 13, 21}, {0, 5, 0, 1},
		row(20, func(i int) int { return 1 + i }), row(20, func(i int) int { return 20 - i }), row(30, func(i int) int { return 1 + i*i }),
	}
	for size := range 36 {
		out = append(out, many(size, 1), many(size, 1<<40), fibonacci(size), row(size, func(i int) int { return 1 << i }), row(size, func(i int) int { return 1 << (i / 2) }), row(size, func(i int) int { return 1 << (40 - i) }))
	}
	seed := uint64(1)
	for i := range 300 {
		out = append(out, someCounts(&seed, 1+pick(&seed, 40), 1+i%39))
	}
	return out
}

// largeCounts is counts of many symbols, up to the size.
func largeCounts(size int) [][]int {
	seed := uint64(2)
	return [][]int{
		many(size, 1), many(size, 1<<40), many(size, 0),
		row(size, func(i int) int { return 1 + i*i }), row(size, func(i int) int { return 1 << (i % 41) }), row(size, func(i int) int { return i & 1 }),
		slices.Concat(many(size-40, 1), fibonacci(40)), slices.Concat(fibonacci(40), many(size-40, 0)), slices.Concat([]int{1 << 40}, many(size-2, 1), []int{0}),
		someCounts(&seed, size, 10), someCounts(&seed, size, 39),
	}
}

// wrongCounts is counts with one fault each, for the number of symbols that there may be.
func wrongCounts(size int) [][]int {
	out := [][]int{many(size+1, 0), many(size+1, 1), many(1<<20, 1), slices.Concat(many(size, 0), []int{5})}
	for _, n := range []int{-1, -2, 1<<40 + 1, 1 << 41, -1 << 40, 1 << 62, math.MaxInt, math.MinInt, math.MinInt + 1} {
		out = append(out, []int{n}, []int{1, 2, n}, []int{n, 1, 2}, []int{1, n, 0}, slices.Concat(many(size-1, 1), []int{n}), slices.Concat([]int{n}, many(size-1, 0)), many(size+1, n))
	}
	return out
}

// occurring is the counts that aren't 0.
func occurring(counts []int) []int {
	return slices.DeleteFunc(slices.Clone(counts), func(n int) bool { return n == 0 })
}

// plainCost is the sum of count times length.
func plainCost(counts, lengths []int) int {
	sum := 0
	for i, n := range counts {
		for range lengths[i] {
			sum += n
		}
	}
	return sum
}

// plainFree is the free amount as the document of layer 4 defines it.
func plainFree(lengths []int) int {
	free := 1 << 16
	for _, n := range lengths {
		if n > 0 {
			free -= 1 << (16 - n)
		}
	}
	return free
}

// plainLeast is the least cost of lengths up to longest for counts that aren't 0, and that leave a code free if so asked, or none; never, if there are none.
//
// It walks down the tree of codes: of the nodes at a depth, some are the codes of the most frequent symbols that have none yet, and the others have two nodes below them each. Every symbol without a code yet costs its count once a depth.
func plainLeast(counts []int, longest int, spare bool) int {
	switch len(counts) {
	case 0:
		return 0
	case 1:
		return counts[0] // a single symbol's length is 1
	}
	behind := plainBehind(counts)
	var below [][]int // by the symbols that have codes, and by the nodes
	for depth := longest; depth >= 0; depth-- {
		below = plainDepth(behind, below, 1<<depth, spare)
	}
	return below[0][1]
}

// plainBehind is what the symbols cost at a depth, from a place on, of which the first is that of the most frequent one.
func plainBehind(counts []int) []int {
	out := make([]int, len(counts)+1)
	copy(out, counts)
	slices.Sort(out)
	slices.Reverse(out)
	for i := len(counts) - 1; i >= 0; i-- {
		out[i] += out[i+1]
	}
	return out
}

// plainDepth is the least costs below a depth, for the symbols that have codes above it, and for its nodes, of which there are at most so many: by those below the next depth, if there is one.
func plainDepth(behind []int, below [][]int, most int, spare bool) [][]int {
	size, extra := len(behind)-1, 0
	if spare {
		extra = 1
	}
	out := make([][]int, size)
	for done := range out {
		left := size - done
		out[done] = many(left+extra+1, never)
		out[done][left+extra] = 0 // all nodes are codes, but for the one to spare
		if below == nil {
			continue
		}
		for nodes := range min(left+extra, most) + 1 {
			best := &out[done][nodes]
			for ends := range min(nodes, left) {
				open := 2 * (nodes - ends)
				if spare {
					open = min(open, left-ends+1) // more are of no use
				}
				if open <= left-ends+extra && below[done+ends][open] < never {
					*best = min(*best, behind[done+ends]+below[done+ends][open])
				}
			}
		}
	}
	return out
}

// everyLengths is all lengths from 0 to longest, of so many symbols.
func everyLengths(size, longest int) [][]int {
	out := [][]int{nil}
	for range size {
		var more [][]int
		for _, list := range out {
			for n := range longest + 1 {
				more = append(more, slices.Concat(list, []int{n}))
			}
		}
		out = more
	}
	return out
}

// matches tells whether lengths are 0 exactly where the count is.
func matches(counts, lengths []int) bool {
	for i, n := range counts {
		if (n == 0) != (lengths[i] == 0) {
			return false
		}
	}
	return len(counts) == len(lengths)
}

// may tells whether the document lets Lengths answer these, but for their cost.
func may(counts, lengths []int, longest int) bool {
	for _, n := range lengths {
		if n < 0 || n > longest {
			return false
		}
	}
	if !matches(counts, lengths) || plainFree(lengths) < 0 {
		return false
	}
	switch len(occurring(counts)) {
	case 0:
		return true
	case 1:
		return slices.Max(lengths) == 1
	}
	return plainFree(lengths) == 0
}

// checkLengths holds Lengths against what the document asks, with the least cost, or never if there are no such lengths.
func checkLengths(t *testing.T, counts []int, longest, cost int) {
	t.Helper()
	lengths, err := Lengths(counts, longest)
	if cost == never {
		if lengths != nil || err != api.ErrRange {
			t.Fatalf("%v up to %d: %v %v, want ErrRange", counts, longest, lengths, err)
		}
		return
	}
	if err != nil || !may(counts, lengths, longest) {
		t.Fatalf("%v up to %d: %v %v", counts, longest, lengths, err)
	}
	if n := plainCost(counts, lengths); n != cost {
		t.Fatalf("%v up to %d: %v cost %d, want %d", counts, longest, lengths, n, cost)
	}
	if n, err := Cost(counts, lengths); n != cost || err != nil {
		t.Fatalf("%v %v: Cost is %d %v, want %d", counts, lengths, n, err, cost)
	}
	if free, err := canon.Free(lengths); free != plainFree(lengths) || err != nil {
		t.Fatalf("%v up to %d: %v leave %d %v", counts, longest, lengths, free, err)
	}
	checkFalling(t, counts, lengths)
}

// checkFalling is P5.2.
func checkFalling(t *testing.T, counts, lengths []int) {
	t.Helper()
	for i, n := range counts {
		for j, m := range counts {
			if n > m && m > 0 && lengths[i] > lengths[j] {
				t.Fatalf("%v: %v: symbol %d occurs more often than %d", counts, lengths, i, j)
			}
		}
	}
}

// tableLengths is the lengths of a table by the symbol.
func tableLengths(t *testing.T, c api.Codes) []int {
	t.Helper()
	out, rest := make([]int, 256), c.Symbols
	for i, n := range c.Counts {
		if n < 0 || n > len(rest) {
			t.Fatal("the counts aren't those of the symbols", c)
		}
		for _, symbol := range rest[:n] {
			if out[symbol] > 0 {
				t.Fatal("twice", symbol, c)
			}
			out[symbol] = i + 1
		}
		rest = rest[n:]
	}
	if len(rest) > 0 {
		t.Fatal("symbols without a count", c)
	}
	return out
}

// checkTable holds Table against what the document asks, with the least cost.
func checkTable(t *testing.T, counts []int, cost int) {
	t.Helper()
	c, err := Table(counts)
	if err != nil {
		t.Fatal(counts, err)
	}
	lengths := tableLengths(t, c)
	if slices.ContainsFunc(lengths[len(counts):], func(n int) bool { return n > 0 }) {
		t.Fatal("codes of symbols that there aren't", counts, c)
	}
	lengths = lengths[:len(counts)]
	// Where nothing is free, the last code has only bits 1.
	if !matches(counts, lengths) || plainFree(lengths) <= 0 {
		t.Fatalf("%v: %v leave %d", counts, c, plainFree(lengths))
	}
	if n := plainCost(counts, lengths); n != cost {
		t.Fatalf("%v: %v cost %d, want %d", counts, c, n, cost)
	}
	if _, err := canon.NewTable(c); err != nil {
		t.Fatal(counts, c, err)
	}
	checkFalling(t, counts, lengths)
}

// P5.1

func TestExamples(t *testing.T) {
	for _, x := range []struct {
		counts, lengths []int
		longest, cost   int
	}{
		{[]int{1, 1, 2, 4}, []int{3, 3, 2, 1}, 3, 14},
		{[]int{1, 1, 2, 4}, []int{2, 2, 2, 2}, 2, 16},
		{[]int{4, 0, 1, 2, 1}, []int{1, 0, 3, 2, 3}, 16, 14},
		{[]int{0, 5, 0}, []int{0, 1, 0}, 15, 5},
		{[]int{0, 5, 0}, []int{0, 1, 0}, 1, 5},
		{[]int{1 << 40, 0, 1}, []int{1, 0, 1}, 1, 1<<40 + 1},
		{[]int{1, 5, 3}, []int{2, 1, 2}, 2, 13},
		{[]int{0, 0}, []int{0, 0}, 1, 0},
	} {
		lengths, err := Lengths(x.counts, x.longest)
		if !slices.Equal(lengths, x.lengths) || err != nil {
			t.Error(x.counts, x.longest, lengths, err)
		}
		if n, err := Cost(x.counts, x.lengths); n != x.cost || err != nil {
			t.Error(x.counts, x.lengths, n, err)
		}
	}
	for _, x := range []struct {
		counts []int
		want   api.Codes
	}{
		{nil, api.Codes{}},
		{many(256, 0), api.Codes{}},
		{[]int{0, 5}, api.Codes{Counts: [16]int{1}, Symbols: []byte{1}}},
		{[]int{0, 5, 0, 1}, api.Codes{Counts: [16]int{1, 1}, Symbols: []byte{1, 3}}},
		{slices.Concat([]int{1}, many(254, 0), []int{9}), api.Codes{Counts: [16]int{1, 1}, Symbols: []byte{255, 0}}},
		{[]int{1, 9, 3}, api.Codes{Counts: [16]int{1, 1, 1}, Symbols: []byte{1, 2, 0}}},
	} {
		c, err := Table(x.counts)
		if c.Counts != x.want.Counts || !slices.Equal(c.Symbols, x.want.Symbols) || err != nil {
			t.Error(x.counts, c, err)
		}
	}
}

// Few symbols: against all lengths that there are. There are none exactly where more than 2^longest symbols occur.
func TestLengthsAgainstAll(t *testing.T) {
	for size := range 6 {
		for longest := 1; longest <= 4; longest++ {
			all := everyLengths(size, longest)
			for _, places := range everyLengths(size, 3) {
				counts := row(size, func(i int) int { return [4]int{0, 1, 2, 5}[places[i]] })
				cost := never
				for _, lengths := range all {
					if may(counts, lengths, longest) {
						cost = min(cost, plainCost(counts, lengths))
					}
				}
				checkLengths(t, counts, longest, cost)
				if n := occurring(counts); plainLeast(n, longest, false) != cost {
					t.Fatalf("%v up to %d: the plain model is off, want %d", counts, longest, cost)
				}
			}
		}
	}
}

func TestTableAgainstAll(t *testing.T) {
	for size := range 5 {
		all := everyLengths(size, 5)
		for _, places := range everyLengths(size, 4) {
			counts := row(size, func(i int) int { return [5]int{0, 1, 2, 3, 8}[places[i]] })
			cost := never
			for _, lengths := range all {
				if matches(counts, lengths) && plainFree(lengths) > 0 {
					cost = min(cost, plainCost(counts, lengths))
				}
			}
			checkTable(t, counts, cost)
			if plainLeast(occurring(counts), 16, true) != cost {
				t.Fatalf("%v: the plain model is off, want %d", counts, cost)
			}
		}
	}
}

func TestLengths(t *testing.T) {
	for _, counts := range smallCounts() {
		for longest := 1; longest <= 16; longest++ {
			checkLengths(t, counts, longest, plainLeast(occurring(counts), longest, false))
		}
	}
}

// As many symbols as there are codes of the greatest length, and one more.
func TestLengthsFull(t *testing.T) {
	for longest := 1; longest <= 8; longest++ {
		for size := 1<<longest - 1; size <= 1<<longest+1; size++ {
			for _, counts := range [][]int{many(size, 3), row(size, func(i int) int { return 1 << min(i, 40) }), slices.Concat(many(40, 0), fibonacci(min(size, 50)), many(max(0, size-50), 7))} {
				checkLengths(t, counts, longest, plainLeast(occurring(counts), longest, false))
			}
		}
	}
}

func TestLengthsOfMany(t *testing.T) {
	for _, counts := range largeCounts(300) {
		for _, longest := range []int{7, 8, 9, 10, 16} {
			cost := never
			if n := occurring(counts); len(n) <= 1<<longest {
				cost = plainLeast(n, longest, false)
			}
			checkLengths(t, counts, longest, cost)
		}
	}
}

func TestTable(t *testing.T) {
	for _, counts := range smallCounts() {
		checkTable(t, counts, plainLeast(occurring(counts), 16, true))
	}
	for _, counts := range largeCounts(256) {
		checkTable(t, counts, plainLeast(occurring(counts), 16, true))
	}
}

// What is limited has codes of the greatest length, and costs more than what isn't.
func TestLimit(t *testing.T) {
	counts := fibonacci(30)
	for longest := 5; longest <= 16; longest++ {
		lengths, err := Lengths(counts, longest)
		if err != nil || slices.Max(lengths) != longest {
			t.Error(longest, lengths, err)
		}
	}
	c, err := Table(counts)
	if err != nil || c.Counts[15] == 0 || len(c.Symbols) != 30 {
		t.Error(c, err)
	}
}

func TestLengthsErrors(t *testing.T) {
	for _, counts := range wrongCounts(300) {
		for _, longest := range []int{-1, 0, 1, 9, 15, 16, 17} { // ErrForm comes first
			if lengths, err := Lengths(counts, longest); lengths != nil || err != api.ErrForm {
				t.Error(len(counts), longest, lengths, err)
			}
		}
	}
	for _, counts := range [][]int{nil, {0}, {1}, {1, 1}, many(300, 0), many(300, 1), many(300, 1<<40)} {
		for _, longest := range []int{0, -1, -16, -63, -64, -65, 17, 18, 32, 63, 64, 65, 1 << 32, 1<<32 + 1, math.MaxInt, math.MinInt, math.MinInt + 1} {
			if lengths, err := Lengths(counts, longest); lengths != nil || err != api.ErrRange {
				t.Error(len(counts), longest, lengths, err)
			}
		}
	}
}

func TestTableErrors(t *testing.T) {
	for _, counts := range append(wrongCounts(256), many(300, 1)) {
		if c, err := Table(counts); c.Counts != [16]int{} || c.Symbols != nil || err != api.ErrForm {
			t.Error(len(counts), c, err)
		}
	}
}

func TestCost(t *testing.T) {
	for _, x := range []struct {
		counts, lengths []int
		cost            int
	}{
		{nil, nil, 0}, {nil, []int{}, 0}, {[]int{}, nil, 0}, {[]int{5}, []int{0}, 0}, {[]int{0}, []int{16}, 0}, {[]int{5}, []int{16}, 80},
		{[]int{1, 1, 1}, []int{1, 1, 1}, 3}, // lengths that aren't valid cost too
		{[]int{3, 0, 7, 10}, []int{2, 5, 0, 1}, 16}, {[]int{1 << 40}, []int{16}, 1 << 44},
		{many(300, 0), many(300, 16), 0}, {many(300, 1<<40), many(300, 0), 0}, {many(300, 1<<40), many(300, 16), 300 << 44},
	} {
		if n, err := Cost(x.counts, x.lengths); n != x.cost || err != nil {
			t.Error(x.counts, x.lengths, n, err)
		}
	}
	seed := uint64(3)
	for range 300 {
		size := pick(&seed, 301)
		counts := someCounts(&seed, size, 1+pick(&seed, 39))
		lengths := row(size, func(int) int { return pick(&seed, 17) })
		if n, err := Cost(counts, lengths); n != plainCost(counts, lengths) || err != nil {
			t.Fatal(counts, lengths, n, err)
		}
	}
}

func TestCostErrors(t *testing.T) {
	for _, counts := range wrongCounts(300) {
		if n, err := Cost(counts, make([]int, len(counts))); n != 0 || err != api.ErrForm {
			t.Error(len(counts), n, err)
		}
	}
	for _, x := range [][2][]int{
		{{1}, nil}, {nil, {1}}, {{1, 2}, {1}}, {{1}, {1, 1}}, {{1}, {1, 0}}, {{1, 0}, {1}}, {many(300, 1), many(299, 1)}, {many(300, 1), many(301, 1)}, {many(301, 1), many(300, 1)}, {many(301, 1), many(301, 1)},
		{{1}, {-1}}, {{1}, {17}}, {{0}, {17}}, {{0}, {-1}}, {{1, 1, 1}, {1, 2, 17}}, {{1, 1, 1}, {-1, 2, 1}}, {{1}, {math.MaxInt}}, {{1}, {math.MinInt}}, {{1}, {1 << 32}},
		{many(300, 1), slices.Concat(many(299, 1), []int{17})},
	} {
		if n, err := Cost(x[0], x[1]); n != 0 || err != api.ErrForm {
			t.Error(x, n, err)
		}
	}
}

// P5.2

// The order of the symbols is of no matter, but for those that occur equally often.
func TestOftenIsShort(t *testing.T) {
	seed := uint64(4)
	for round := range 300 {
		size := 2 + pick(&seed, 255)
		rising := row(size, func(i int) int { return 1 + i + i*i*(round%7) })
		counts := slices.Clone(rising)
		for i := range counts {
			j := pick(&seed, i+1)
			counts[i], counts[j] = counts[j], counts[i]
		}
		want, errWant := Lengths(rising, 16)
		lengths, err := Lengths(counts, 16)
		c, errTable := Table(counts)
		if err != nil || errWant != nil || errTable != nil {
			t.Fatal(err, errWant, errTable)
		}
		for symbol, n := range counts {
			if at, _ := slices.BinarySearch(rising, n); lengths[symbol] != want[at] {
				t.Fatalf("%v: %d occurrences have length %d, or %d", counts, n, lengths[symbol], want[at])
			}
		}
		checkFalling(t, counts, lengths)
		checkFalling(t, counts, tableLengths(t, c)[:size])
	}
}

// P5.3

// spoil writes over numbers, and over the room behind them.
func spoil[T int | byte](list []T) {
	list = list[:cap(list)]
	for i := range list {
		list[i] ^= 0x5a
	}
}

// roomy is numbers with others in the room behind them.
func roomy(list []int) []int {
	return append(slices.Clone(list), 1, 2, 3, 4, 5, 6, 7)[:len(list)]
}

func TestCountsStay(t *testing.T) {
	for _, counts := range slices.Concat(smallCounts(), largeCounts(256), wrongCounts(256)) {
		in := roomy(counts)
		held := slices.Clone(in[:cap(in)])
		first, errFirst := Lengths(in, 16)
		second, errSecond := Lengths(in, 16)
		c, errC := Table(in)
		d, errD := Table(in)
		if errFirst != errSecond || errC != errD || !slices.Equal(first, second) || c.Counts != d.Counts || !slices.Equal(c.Symbols, d.Symbols) {
			t.Fatal("two answers differ", counts)
		}
		lengths, symbols := slices.Clone(second), slices.Clone(d.Symbols)
		spoil(first)
		spoil(c.Symbols)
		if !slices.Equal(in[:cap(in)], held) {
			t.Fatal("written over, or an answer shares its memory", counts)
		}
		spoil(in)
		if !slices.Equal(second, lengths) || !slices.Equal(d.Symbols, symbols) {
			t.Fatal("two answers share memory, or one with the argument", counts)
		}
	}
}

func TestCostStays(t *testing.T) {
	counts, lengths := roomy([]int{1, 1, 2, 4}), roomy([]int{3, 3, 2, 1})
	heldCounts, heldLengths := slices.Clone(counts[:cap(counts)]), slices.Clone(lengths[:cap(lengths)])
	for range 2 {
		if n, err := Cost(counts, lengths); n != 14 || err != nil {
			t.Fatal(n, err)
		}
	}
	if !slices.Equal(counts[:cap(counts)], heldCounts) || !slices.Equal(lengths[:cap(lengths)], heldLengths) {
		t.Fatal("written over")
	}
}
