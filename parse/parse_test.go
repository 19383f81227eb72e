package parse

import (
	"bytes"
	"maps"
	"math"
	"slices"
	"testing"

	"burnish/api"
	"burnish/inflate"
)

// greedy is a text's greedy parse.
func greedy(t *testing.T, text []byte) []api.Token {
	t.Helper()
	out, err := Greedy(text)
	if err != nil {
		t.Fatalf("%.80q: %v", text, err)
	}
	return out
}

// cheapest is a text's cheapest parse.
func cheapest(t *testing.T, text []byte, p Prices) []api.Token {
	t.Helper()
	out, err := Cheapest(text, p)
	if err != nil {
		t.Fatalf("%.80q: %v", text, err)
	}
	return out
}

// price is what valid tokens cost.
func price(t *testing.T, tokens []api.Token, p Prices) int {
	t.Helper()
	sum, err := Price(tokens, p)
	if err != nil || sum != plainSum(tokens, p) {
		t.Fatalf("%.10v: %d %v, want %d", tokens, sum, err, plainSum(tokens, p))
	}
	return sum
}

// checkParse tells whether tokens are a parse of a text.
func checkParse(t *testing.T, text []byte, tokens []api.Token) {
	t.Helper()
	at := 0
	for _, x := range tokens {
		if x.Len == 0 && at < len(text) && x.Dist == int(text[at]) {
			at++
			continue
		}
		found := plainNearest(text, min(at, len(text)))
		if i := x.Len - 3; i < 0 || i >= len(found) || found[i] != x {
			t.Fatalf("%.80q: %v at %d, of %v", text, x, at, found)
		}
		at += x.Len
	}
	if at != len(text) {
		t.Fatalf("%.80q: up to %d", text, at)
	}
}

// checkLeast tells whether the cheapest parse of a text is one, and costs least.
func checkLeast(t *testing.T, text []byte, p Prices) {
	t.Helper()
	tokens := cheapest(t, text, p)
	checkParse(t, text, tokens)
	if got, want := price(t, tokens, p), plainLeast(text, p); got != want {
		t.Fatalf("%.80q: %v for %d, want %d", text, tokens, got, want)
	}
}

// step makes the next text of its kinds of bytes, if there is one.
func step(text []byte, kinds int) bool {
	for i := range text {
		if text[i]++; int(text[i]) < kinds {
			return true
		}
		text[i] = 0
	}
	return false
}

// hard is texts of so many bytes, of sorts that are hard in one way or another.
func hard(size int) map[string][]byte {
	seed := uint64(size)
	half := some(&seed, size/2, 256)
	return map[string][]byte{
		"zeros":        make([]byte, size),
		"none alike":   some(&seed, size, 256),
		"two kinds":    some(&seed, size, 2),
		"four kinds":   some(&seed, size, 4),
		"copied short": copied(&seed, size, 3, 20),
		"copied long":  copied(&seed, size, 200, 400),
		"two halves":   slices.Concat(half, half),
	}
}

// tariffs is prices of several sorts.
func tariffs() map[string]Prices {
	seed := uint64(100)
	rising, falling := even(10, 0, 0), even(10, 0, 0)
	for i := range 259 {
		rising.Lengths[i], falling.Lengths[i] = i, 300-i
	}
	for i := range 30 {
		rising.Dists[i], falling.Dists[i] = i, 30-i
	}
	return map[string]Prices{
		"nothing":        even(0, 0, 0),
		"one each":       even(1, 1, 1),
		"literals":       even(0, 1, 0),
		"matches":        even(1, 0, 0),
		"all at highest": even(1<<20, 1<<20, 1<<20),
		"literals dear":  even(1<<20, 0, 1),
		"matches dear":   even(1, 1<<20, 1<<20),
		"usual":          usual(),
		"rising":         rising,
		"falling":        falling,
		"odd":            odd(&seed, 200, 300, 200),
		"odd and small":  odd(&seed, 5, 9, 4),
		"odd and wide":   odd(&seed, 1<<20+1, 1<<20+1, 1<<20+1),
	}
}

// P9.1: Greedy

func TestGreedyKnown(t *testing.T) {
	for _, x := range []struct {
		text string
		want []api.Token
	}{
		{"", nil},
		{"a", []api.Token{{Dist: 'a'}}},
		{"\xff\x00", []api.Token{{Dist: 255}, {Dist: 0}}},
		{"aaa", []api.Token{{Dist: 'a'}, {Dist: 'a'}, {Dist: 'a'}}},
		{"aaaa", []api.Token{{Dist: 'a'}, {Len: 3, Dist: 1}}},
		{"abab", []api.Token{{Dist: 'a'}, {Dist: 'b'}, {Dist: 'a'}, {Dist: 'b'}}},
		{"abcabcabc", []api.Token{{Dist: 'a'}, {Dist: 'b'}, {Dist: 'c'}, {Len: 6, Dist: 3}}},
		{"abcabcabcxabcx", []api.Token{{Dist: 'a'}, {Dist: 'b'}, {Dist: 'c'}, {Len: 6, Dist: 3}, {Dist: 'x'}, {Len: 4, Dist: 4}}},
		// A literal in between would be better.
		{"abc_bcdef_abcdef", []api.Token{{Dist: 'a'}, {Dist: 'b'}, {Dist: 'c'}, {Dist: '_'}, {Dist: 'b'}, {Dist: 'c'}, {Dist: 'd'}, {Dist: 'e'}, {Dist: 'f'}, {Dist: '_'}, {Len: 3, Dist: 10}, {Len: 3, Dist: 7}}},
		// Of equally long ones the nearest.
		{"abcdabcdabcd", []api.Token{{Dist: 'a'}, {Dist: 'b'}, {Dist: 'c'}, {Dist: 'd'}, {Len: 8, Dist: 4}}},
		{"abcxabcyabc", []api.Token{{Dist: 'a'}, {Dist: 'b'}, {Dist: 'c'}, {Dist: 'x'}, {Len: 3, Dist: 4}, {Dist: 'y'}, {Len: 3, Dist: 4}}},
	} {
		if got := greedy(t, []byte(x.text)); !slices.Equal(got, x.want) || !slices.Equal(plainGreedy([]byte(x.text)), x.want) {
			t.Errorf("%q: %v, want %v", x.text, got, x.want)
		}
	}
}

// All short texts of few kinds of bytes.
func TestGreedyShort(t *testing.T) {
	for kinds, longest := range map[int]int{1: 20, 2: 13, 3: 8, 4: 6} {
		for size := range longest + 1 {
			text := make([]byte, size)
			for more := true; more; more = step(text, kinds) {
				if got, want := greedy(t, text), plainGreedy(text); !slices.Equal(got, want) {
					t.Fatalf("%q: %v, want %v", text, got, want)
				}
			}
		}
	}
}

func TestGreedyLonger(t *testing.T) {
	for _, size := range []int{100, 258, 259, 260, 261, 516, 517, 518, 2000} {
		for name, text := range hard(size) {
			if got, want := greedy(t, text), plainGreedy(text); !slices.Equal(got, want) {
				t.Fatalf("%s: %v, want %v", name, got, want)
			}
		}
	}
}

func TestGreedyLengths(t *testing.T) {
	// A run of n zeros is one literal, matches of 258, and what is left over, as literals if it is too little.
	for _, n := range []int{1, 2, 3, 4, 258, 259, 260, 261, 262, 517, 518, 519, 520, 1 << 20} {
		want := []api.Token{{}}
		left := n - 1
		for ; left >= 258; left -= 258 {
			want = append(want, api.Token{Len: 258, Dist: 1})
		}
		if left >= 3 {
			want = append(want, api.Token{Len: left, Dist: 1})
		} else {
			want = append(want, make([]api.Token, left)...)
		}
		if got := greedy(t, make([]byte, n)); !slices.Equal(got, want) {
			t.Errorf("%d zeros: %v", n, got)
		}
	}
}

// The farthest distance, and one more.
func TestFarthest(t *testing.T) {
	seed := uint64(1)
	p := even(100, 1, 1)
	for dist, far := range map[int]bool{32767: true, 32768: true, 32769: false} {
		text := slices.Concat([]byte("ABCDEFGH"), some(&seed, dist-8, 60), []byte("ABCDEFGH"))
		for name, tokens := range map[string][]api.Token{"greedy": greedy(t, text), "cheapest": cheapest(t, text, p)} {
			last := tokens[len(tokens)-1]
			if far && last != (api.Token{Len: 8, Dist: dist}) || !far && last != (api.Token{Dist: 'H'}) {
				t.Errorf("%s at %d: %v", name, dist, last)
			}
		}
	}
}

func TestTooLarge(t *testing.T) {
	p := even(3, 4, 5)
	for _, size := range []int{1<<20 + 1, 1<<20 + 2, 1 << 21, 1 << 24} {
		text := make([]byte, size)
		if out, err := Greedy(text); out != nil || err != api.ErrTooLarge {
			t.Errorf("%d bytes: %d tokens %v", size, len(out), err)
		}
		if out, err := Cheapest(text, p); out != nil || err != api.ErrTooLarge {
			t.Errorf("%d bytes: %d tokens %v", size, len(out), err)
		}
		// Prices are examined first.
		if out, err := Cheapest(text, even(3, 4, -5)); out != nil || err != api.ErrForm {
			t.Errorf("%d bytes: %d tokens %v", size, len(out), err)
		}
	}
}

// P9.1: Cheapest

func TestCheapestKnown(t *testing.T) {
	for _, x := range []struct {
		text string
		p    Prices
		want []api.Token
		cost int
	}{
		{"", even(1, 1, 1), nil, 0},
		{"a", even(7, 1, 1), []api.Token{{Dist: 'a'}}, 7},
		{"aaaa", even(3, 4, 4), []api.Token{{Dist: 'a'}, {Len: 3, Dist: 1}}, 11},
		{"aaaa", even(3, 5, 5), []api.Token{{Dist: 'a'}, {Dist: 'a'}, {Dist: 'a'}, {Dist: 'a'}}, 12},
		{"abcabcabc", even(8, 7, 5), []api.Token{{Dist: 'a'}, {Dist: 'b'}, {Dist: 'c'}, {Len: 6, Dist: 3}}, 36},
		// A literal first, and then what is longer.
		{"abc_bcdef_abcdef", even(8, 9, 9), []api.Token{{Dist: 'a'}, {Dist: 'b'}, {Dist: 'c'}, {Dist: '_'}, {Dist: 'b'}, {Dist: 'c'}, {Dist: 'd'}, {Dist: 'e'}, {Dist: 'f'}, {Dist: '_'}, {Dist: 'a'}, {Len: 5, Dist: 7}}, 106},
	} {
		got := cheapest(t, []byte(x.text), x.p)
		if !slices.Equal(got, x.want) || price(t, got, x.p) != x.cost {
			t.Errorf("%q: %v, want %v for %d", x.text, got, x.want, x.cost)
		}
	}
}

// A shorter match that is nearer, or one that is shorter than it need be, is taken if that costs less.
func TestCheapestShortens(t *testing.T) {
	p := even(50, 10, 10)
	text := []byte("abcdefgh__efgh0abcdefgh")
	p.Lengths[8] = 500
	p.Lengths[5] = 1
	got := cheapest(t, text, p)
	if tail := got[len(got)-2:]; tail[0].Len+tail[1].Len != 8 || tail[0].Len > 5 {
		t.Error(got)
	}
	checkLeast(t, text, p)
	p = even(50, 10, 10)
	p.Dists[above(distBases, 15)] = 1000 // all of the long one
	got = cheapest(t, text, p)
	if tail := got[len(got)-5:]; !slices.Equal(tail, []api.Token{{Dist: 'a'}, {Dist: 'b'}, {Dist: 'c'}, {Dist: 'd'}, {Len: 4, Dist: 9}}) {
		t.Error(got)
	}
	checkLeast(t, text, p)
}

// Only nearest matches are in a parse, even if a farther one would cost less.
func TestCheapestIsOfNearest(t *testing.T) {
	p := even(100, 1, 1000)
	p.Dists[above(distBases, 24)] = 0
	text := []byte("abc0123456789ABCDEFGabc1abc") // the last abc has others at the distances 4 and 24
	got := cheapest(t, text, p)
	if tail := got[len(got)-4:]; !slices.Equal(tail, []api.Token{{Dist: '1'}, {Dist: 'a'}, {Dist: 'b'}, {Dist: 'c'}}) {
		t.Error(got)
	}
	checkLeast(t, text, p)
}

// All short texts of few kinds of bytes, held against all their parses.
func TestCheapestShort(t *testing.T) {
	all := tariffs()
	names := slices.Sorted(maps.Keys(all))
	for kinds, longest := range map[int]int{1: 16, 2: 12, 3: 8} {
		for size := range longest + 1 {
			text := make([]byte, size)
			for more := true; more; more = step(text, kinds) {
				every := parses(text, 0)
				for _, name := range names {
					checkAmong(t, name, text, all[name], every)
				}
			}
		}
	}
}

// checkAmong tells whether the cheapest parse of a text is one of all its parses, none of which costs less.
func checkAmong(t *testing.T, name string, text []byte, p Prices, every [][]api.Token) {
	t.Helper()
	got := cheapest(t, text, p)
	cost, among := price(t, got, p), false
	for _, tokens := range every {
		among = among || slices.Equal(tokens, got)
		if plainSum(tokens, p) < cost {
			t.Fatalf("%s, %q: %v for %d, but %v for %d", name, text, got, cost, tokens, plainSum(tokens, p))
		}
	}
	if !among {
		t.Fatalf("%s, %q: %v is no parse", name, text, got)
	}
}

func TestCheapestLonger(t *testing.T) {
	t.Parallel()
	for _, size := range []int{30, 258, 259, 260, 261, 600, 1000} {
		for _, text := range hard(size) {
			for _, p := range tariffs() {
				checkLeast(t, text, p)
			}
		}
	}
	seed := uint64(2)
	for range 200 {
		text := copied(&seed, 1+pick(&seed, 700), 1+pick(&seed, 6), 1+pick(&seed, 300))
		checkLeast(t, text, odd(&seed, 1+pick(&seed, 300), 1+pick(&seed, 300), 1+pick(&seed, 300)))
	}
}

// Each distance's symbol has its own price.
func TestCheapestDistances(t *testing.T) {
	t.Parallel()
	seed := uint64(3)
	before := some(&seed, 33000, 128)
	for symbol := range 30 {
		last := 32768
		if symbol < 29 {
			last = distBases[symbol+1] - 1
		}
		for _, dist := range []int{distBases[symbol], (distBases[symbol] + last) / 2, last} {
			text := slices.Clone(before[:dist])
			copy(text, []byte{200, 201, 202, 203}[:min(4, dist)])
			for range 4 {
				text = append(text, text[len(text)-dist])
			}
			for change := range 2 {
				p := even(10, 20, 30)
				p.Dists[symbol] = 19 + 2*change // with 20, less or more than four literals, or than one and a match of 3
				p.Lengths[3] = 40
				got := cheapest(t, text, p)
				if taken := got[len(got)-1].Len == 4; taken != (change == 0) {
					t.Fatalf("distance %d, price %d: %v", dist, 19+2*change, got[len(got)-1])
				}
			}
		}
	}
}

// Each length has its own price, even those of one symbol.
func TestCheapestLengths(t *testing.T) {
	seed := uint64(4)
	for length := 3; length <= 258; length++ {
		piece := some(&seed, 258, 250)
		text := slices.Concat(piece, []byte{251}, piece, []byte{252})
		p := even(1000, 1<<20, 7)
		p.Lengths[length] = 5
		got := cheapest(t, text, p)
		if !slices.ContainsFunc(got, func(x api.Token) bool { return x.Len == length }) {
			t.Fatalf("none of %d: %v", length, got[259:])
		}
		checkLeast(t, text, p)
	}
}

// What costs most: sums far beyond 32 bits.
func TestCheapestDear(t *testing.T) {
	t.Parallel()
	seed := uint64(5)
	text := some(&seed, 1<<20, 256)
	p := even(1<<20, 1<<20, 1<<20)
	got := cheapest(t, text, p)
	if b, err := inflate.Expand(got, 1<<20); !bytes.Equal(b, text) || err != nil {
		t.Fatal(err)
	}
	if sum := price(t, got, p); sum > 1<<40 || sum < 1<<39 {
		t.Error(sum)
	}
	p = even(1<<20, 1<<20, 1<<20)
	for i := range p.Lengths {
		p.Lengths[i] = 1
	}
	p.Dists = make([]int, 30)
	zeros := cheapest(t, make([]byte, 1<<20), p)
	if sum := price(t, zeros, p); sum != 1<<20+(1<<20-1+257)/258 {
		t.Error(sum)
	}
}

// The prices of lengths below 3 make no difference.
func TestNoSuchLengths(t *testing.T) {
	seed := uint64(6)
	text := copied(&seed, 1000, 3, 30)
	p := odd(&seed, 100, 200, 100)
	want := price(t, cheapest(t, text, p), p)
	for _, n := range []int{0, 1, 1 << 20} {
		copy(p.Lengths, []int{n, n, n})
		if got := price(t, cheapest(t, text, p), p); got != want {
			t.Errorf("%d: %d, want %d", n, got, want)
		}
	}
}

// P9.1: prices that aren't valid

// checkForm tells whether prices are taken, or refused.
func checkForm(t *testing.T, name string, p Prices, good bool) {
	t.Helper()
	for _, text := range [][]byte{nil, []byte("aaaaa")} {
		tokens, err := Cheapest(text, p)
		if good && (err != nil || (len(tokens) == 0) != (len(text) == 0)) || !good && (err != api.ErrForm || tokens != nil) {
			t.Errorf("%s: %v %v", name, tokens, err)
		}
	}
	for _, tokens := range [][]api.Token{nil, {{Dist: 9}}, {{Dist: 9}, {Len: 3, Dist: 1}}} {
		sum, err := Price(tokens, p)
		if good && err != nil || !good && (err != api.ErrForm || sum != 0) {
			t.Errorf("%s: %d %v", name, sum, err)
		}
	}
}

func TestNumbersOfPrices(t *testing.T) {
	checkForm(t, "none", Prices{}, false)
	checkForm(t, "all", even(1, 2, 3), true)
	for i, size := range []int{256, 259, 30} {
		for _, n := range []int{0, 1, 29, 30, 31, 32, 255, 256, 257, 258, 259, 260, 286, 288, 1000} {
			p := even(1, 2, 3)
			*lists(&p)[i] = slices.Repeat([]int{4}, n)
			checkForm(t, "size", p, n == size)
		}
		p := even(1, 2, 3)
		*lists(&p)[i] = nil
		checkForm(t, "nil", p, false)
	}
}

// Each price by itself at and beyond both ends of the range.
func TestRangeOfPrices(t *testing.T) {
	for i, size := range []int{256, 259, 30} {
		for at := range size {
			for n, good := range map[int]bool{0: true, 1: true, 1<<20 - 1: true, 1 << 20: true, 1<<20 + 1: false, -1: false, -1 << 20: false, 1 << 32: false, math.MinInt: false, math.MaxInt: false} {
				p := even(1, 2, 3)
				(*lists(&p)[i])[at] = n
				checkForm(t, "range", p, good)
			}
		}
	}
}

// What stands in the room behind prices is none.
func TestRoomBehindPrices(t *testing.T) {
	for i := range 3 {
		p := even(1, 2, 3)
		list := lists(&p)[i]
		*list = append(*list, -1)[:len(*list)]
		checkForm(t, "room", p, true)
		*list = (*list)[:len(*list)-1]
		checkForm(t, "room", p, false)
	}
}

// P9.1: Price

func TestPriceKnown(t *testing.T) {
	p := even(10, 0, 0)
	for i := range p.Lengths {
		p.Lengths[i] = 1000 * i
	}
	for i := range p.Dists {
		p.Dists[i] = i
	}
	p.Literals[0], p.Literals[255] = 20, 30
	for _, x := range []struct {
		tokens []api.Token
		want   int
	}{
		{nil, 0},
		{[]api.Token{{}}, 20},
		{[]api.Token{{Dist: 255}}, 30},
		{[]api.Token{{Dist: 7}, {Dist: 7}}, 20},
		{[]api.Token{{Len: 3, Dist: 1}}, 3000},
		{[]api.Token{{Len: 258, Dist: 32768}}, 258029},
		{[]api.Token{{Len: 12, Dist: 6}, {Dist: 0}, {Len: 11, Dist: 24577}}, 12004 + 20 + 11029},
	} {
		if got := price(t, x.tokens, p); got != x.want {
			t.Errorf("%v: %d, want %d", x.tokens, got, x.want)
		}
	}
}

// All valid tokens, each by itself.
func TestPriceAll(t *testing.T) {
	seed := uint64(7)
	p := odd(&seed, 1<<20, 1<<20, 1<<20)
	for b := range 256 {
		price(t, []api.Token{{Dist: b}}, p)
	}
	for length := 3; length <= 258; length++ {
		price(t, []api.Token{{Len: length, Dist: 1 + length*100}}, p)
	}
	for dist := 1; dist <= 32768; dist++ {
		price(t, []api.Token{{Len: 3 + dist%256, Dist: dist}}, p)
	}
}

// wild is numbers that are in no token.
var wild = []int{math.MinInt, math.MinInt + 1, -1 << 32, -1 << 31, -32768, -258, -256, -3, -1, 32769, 65536, 1 << 31, 1<<32 + 3, 1<<32 + 256, math.MaxInt - 1, math.MaxInt}

// edges is tokens, valid ones and others.
func edges() []api.Token {
	var out []api.Token
	for _, length := range append([]int{0, 1, 2, 3, 4, 257, 258, 259, 260, 285, 286}, wild...) {
		for _, dist := range append([]int{0, 1, 2, 3, 254, 255, 256, 257, 32767, 32768}, wild...) {
			out = append(out, api.Token{Len: length, Dist: dist})
		}
	}
	return out
}

func TestPriceRefuses(t *testing.T) {
	p := even(1, 2, 3)
	good := 0
	for _, x := range edges() {
		if plainValid(x) {
			good++
			price(t, []api.Token{x}, p)
			continue
		}
		for _, tokens := range [][]api.Token{{x}, {{Dist: 1}, x}, {x, {Dist: 1}}, {{Len: 3, Dist: 3}, x, x}} {
			if sum, err := Price(tokens, p); sum != 0 || err != api.ErrForm {
				t.Errorf("%v: %d %v", tokens, sum, err)
			}
		}
	}
	if good != 6+4*9 {
		t.Error(good)
	}
}

// A price doesn't ask whether there is what a match repeats, and its sum goes far beyond 32 bits.
func TestPriceSums(t *testing.T) {
	p := even(1<<20, 1<<20, 1<<20)
	if got := price(t, slices.Repeat([]api.Token{{Len: 3, Dist: 32768}}, 1<<16), p); got != 1<<37 {
		t.Error(got)
	}
	if got := price(t, make([]api.Token, 1<<20), p); got != 1<<40 {
		t.Error(got)
	}
}

// P9.1: Count

// plainCount is how often symbols occur.
func plainCount(tokens []api.Token) ([]int, []int) {
	literals, dists := make([]int, 286), make([]int, 30)
	literals[256] = 1
	for _, t := range tokens {
		switch {
		case !plainValid(t):
		case t.Len == 0:
			literals[t.Dist]++
		default:
			literals[257+above(lengthBases, t.Len)]++
			dists[above(distBases, t.Dist)]++
		}
	}
	return literals, dists
}

// checkCount holds counts against the plain model.
func checkCount(t *testing.T, name string, tokens []api.Token) {
	t.Helper()
	literals, dists := Count(tokens)
	wantLiterals, wantDists := plainCount(tokens)
	if !slices.Equal(literals, wantLiterals) || !slices.Equal(dists, wantDists) {
		t.Errorf("%s: %v %v, want %v %v", name, literals, dists, wantLiterals, wantDists)
	}
}

func TestCountKnown(t *testing.T) {
	for _, tokens := range [][]api.Token{nil, {}} {
		literals, dists := Count(tokens)
		if len(literals) != 286 || len(dists) != 30 || literals[256] != 1 || slices.Max(dists) != 0 {
			t.Error(literals, dists)
		}
		checkCount(t, "none", tokens)
	}
	tokens := []api.Token{{Dist: 0}, {Dist: 7}, {Dist: 7}, {Dist: 255}, {Len: 3, Dist: 1}, {Len: 257, Dist: 2}, {Len: 258, Dist: 32768}, {Len: 258, Dist: 7}, {Dist: 256}, {Len: 2, Dist: 2}, {Len: 259, Dist: 2}, {Len: 3, Dist: 0}, {Len: 3, Dist: 32769}}
	literals, dists := Count(tokens)
	for i, n := range literals {
		if want := map[int]int{0: 1, 7: 2, 255: 1, 256: 1, 257: 1, 284: 1, 285: 2}[i]; n != want {
			t.Errorf("literals: %d of %d, want %d", n, i, want)
		}
	}
	for i, n := range dists {
		if want := map[int]int{0: 1, 1: 1, 29: 1, 5: 1}[i]; n != want {
			t.Errorf("distances: %d of %d, want %d", n, i, want)
		}
	}
}

// Each token by itself: valid ones count for their symbols, and others for nothing.
func TestCountEach(t *testing.T) {
	for _, x := range edges() {
		checkCount(t, "edge", []api.Token{x})
		checkCount(t, "edge", []api.Token{x, {Dist: 3}, x, {Len: 5, Dist: 5}})
	}
	for length := 3; length <= 258; length++ {
		checkCount(t, "length", []api.Token{{Len: length, Dist: length}})
	}
	var all []api.Token
	for dist := 1; dist <= 32768; dist++ {
		all = append(all, api.Token{Len: 3 + dist%256, Dist: dist})
		if dist%500 == 0 || slices.Contains(distBases, dist) || slices.Contains(distBases, dist+1) {
			checkCount(t, "distance", all[dist-1:])
		}
	}
	checkCount(t, "distances", all)
	checkCount(t, "edges", edges())
}

func TestCountMany(t *testing.T) {
	for name, text := range hard(5000) {
		checkCount(t, name, greedy(t, text))
		checkCount(t, name, cheapest(t, text, usual()))
	}
	checkCount(t, "literals", make([]api.Token, 1<<21))
}

// P9.2

// Parses stand for their texts, and a cheapest one costs no more than the greedy one and than literals alone, up to the limit.
func TestNoDearer(t *testing.T) {
	t.Parallel()
	saved := 0
	for _, size := range []int{0, 1, 3, 50, 5000, 70000, 1 << 20} {
		for name, text := range hard(size &^ 1) {
			g := greedy(t, text)
			if b, ok := plainExpand(g); !bytes.Equal(b, text) || !ok {
				t.Fatalf("%s: the greedy parse doesn't stand for it", name)
			}
			var literals []api.Token
			for _, b := range text {
				literals = append(literals, api.Token{Dist: int(b)})
			}
			for tariff, p := range someTariffs(size) {
				c := cheapest(t, text, p)
				if b, err := inflate.Expand(c, len(text)); !bytes.Equal(b, text) || err != nil {
					t.Fatalf("%s, %s: it doesn't stand for the text: %v", name, tariff, err)
				}
				least, far, plain := price(t, c, p), price(t, g, p), price(t, literals, p)
				if least > far || least > plain {
					t.Fatalf("%s, %s: %d, the greedy parse %d, literals %d", name, tariff, least, far, plain)
				}
				if least < far && least < plain {
					saved++
				}
			}
		}
	}
	if saved < 50 {
		t.Error("only", saved)
	}
}

// someTariffs is fewer of them for longer texts.
func someTariffs(size int) map[string]Prices {
	all := tariffs()
	if size > 10000 {
		maps.DeleteFunc(all, func(name string, _ Prices) bool { return name != "usual" && (name != "odd" || size > 100000) })
	}
	return all
}

// The same arguments have the same parse.
func TestSameAgain(t *testing.T) {
	seed := uint64(8)
	for range 30 {
		text := copied(&seed, 400, 1+pick(&seed, 4), 50)
		p := odd(&seed, 3, 3, 3)
		if a, b := cheapest(t, text, p), cheapest(t, slices.Clone(text), clone(p)); !slices.Equal(a, b) {
			t.Fatalf("%v and %v", a, b)
		}
		if a, b := greedy(t, text), greedy(t, slices.Clone(text)); !slices.Equal(a, b) {
			t.Fatalf("%v and %v", a, b)
		}
	}
}

// P9.3

func TestArgumentsStay(t *testing.T) {
	seed := uint64(9)
	for _, size := range []int{0, 1, 10, 1000} {
		text := copied(&seed, size+300, 3, 50)[:size]
		heldText := slices.Clone(text[:cap(text)])
		p := odd(&seed, 100, 100, 100)
		for _, list := range lists(&p) {
			*list = append(*list, -7, -8, -9)[:len(*list)]
		}
		heldPrices := clone(p)
		g, c := greedy(t, text), cheapest(t, text, p)
		tokens := append(slices.Clone(g), api.Token{Len: 1, Dist: 1}, api.Token{Dist: -1})
		heldTokens := slices.Clone(tokens)
		price(t, tokens[:len(g)], p)
		Count(tokens[:len(g)])
		if _, err := Price(tokens, p); err != api.ErrForm || !slices.Equal(tokens, heldTokens) {
			t.Fatal("tokens changed", err)
		}
		if !bytes.Equal(text[:cap(text)], heldText) {
			t.Fatal("text changed")
		}
		for i, list := range lists(&p) {
			if n := len(*list); !slices.Equal(*list, *lists(&heldPrices)[i]) || !slices.Equal((*list)[:n+3][n:], []int{-7, -8, -9}) {
				t.Fatal("prices changed")
			}
		}
		heldGreedy, heldCheapest := slices.Clone(g), slices.Clone(c)
		clear(text[:cap(text)])
		for _, list := range lists(&p) {
			clear(*list)
		}
		if !slices.Equal(g, heldGreedy) || !slices.Equal(c, heldCheapest) {
			t.Fatal("a parse hangs on what came in")
		}
	}
}

// What is done to one answer is not seen in another.
func TestResultsApart(t *testing.T) {
	text := []byte("abcabcabcabd")
	p := usual()
	tokens := greedy(t, text)
	for range 2 {
		for name, out := range map[string][]api.Token{"greedy": greedy(t, text), "cheapest": cheapest(t, text, p)} {
			if !slices.Equal(out, plainGreedy(text)) {
				t.Fatal(name, out)
			}
			clear(out[:cap(out)])
		}
		literals, dists := Count(tokens)
		checkCount(t, "again", tokens)
		for i := range literals[:cap(literals)] {
			literals[:cap(literals)][i] = -1
		}
		if slices.Contains(dists, -1) {
			t.Fatal("the counts share memory")
		}
		clear(dists[:cap(dists)])
		if slices.Contains(literals, 0) {
			t.Fatal("the counts share memory")
		}
	}
}
