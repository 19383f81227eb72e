package match

import (
	"bytes"
	"math"
	"slices"
	"strings"
	"sync"
	"testing"

	"burnish/api"
)

// finder is a text's finder.
func finder(t *testing.T, text []byte) *Finder {
	t.Helper()
	f, err := NewFinder(text)
	if err != nil || f == nil || f.Len() != len(text) {
		t.Fatalf("%d bytes: %d %v", len(text), f.Len(), err)
	}
	return f
}

// nearest is what Nearest gives.
func nearest(f *Finder, at int) []api.Token {
	var out []api.Token
	for n, dist := range f.Nearest(at) {
		out = append(out, api.Token{Len: n, Dist: dist})
	}
	return out
}

// checkAt holds what is answered for a place against the nearest matches that there are, the shortest first.
func checkAt(t *testing.T, name string, f *Finder, at int, want []api.Token) {
	t.Helper()
	if got := nearest(f, at); !slices.Equal(got, want) {
		t.Fatalf("%.80q at %d: nearest %v, want %v", name, at, got, want)
	}
	longest := api.Token{}
	if len(want) > 0 {
		longest = want[len(want)-1]
	}
	if got, ok := f.Longest(at); got != longest || ok != (len(want) > 0) {
		t.Fatalf("%.80q at %d: longest %v %v, want %v", name, at, got, ok, longest)
	}
}

// wild is places that no text has.
var wild = []int{math.MinInt, math.MinInt + 1, -1 << 32, -1 << 31, -32768, -258, -3, -2, -1, 1 << 21, 1 << 31, 1<<32 + 3, 1 << 40, math.MaxInt - 258, math.MaxInt - 1, math.MaxInt}

// checkAll holds the answers for all places, and for those beyond, against the plain model.
func checkAll(t *testing.T, name string, text []byte) {
	t.Helper()
	f := finder(t, text)
	for at := range text {
		checkAt(t, name, f, at, plainNearest(text, at))
	}
	for at := len(text); at < len(text)+5; at++ {
		checkAt(t, name, f, at, nil)
	}
	for _, at := range wild {
		checkAt(t, name, f, at, nil)
	}
}

// P8.1: NewFinder and Len

func TestSizes(t *testing.T) {
	for _, text := range [][]byte{nil, {}, {0}, {0, 0}, {0, 0, 0}, {0, 0, 0, 0}, []byte("abcabc"), make([]byte, 1<<20-1), make([]byte, 1<<20)} {
		if f, err := NewFinder(text); f.Len() != len(text) || err != nil {
			t.Errorf("%d bytes: %d %v", len(text), f.Len(), err)
		}
	}
	for _, size := range []int{1<<20 + 1, 1<<20 + 2, 1 << 21, 1 << 24} {
		if f, err := NewFinder(make([]byte, size)); f != nil || err != api.ErrTooLarge {
			t.Errorf("%d bytes: %v %v", size, f != nil, err)
		}
	}
}

func TestNil(t *testing.T) {
	var f *Finder
	if f.Len() != 0 {
		t.Error(f.Len())
	}
	for _, at := range append([]int{0, 1, 3, 100}, wild...) {
		checkAt(t, "a nil finder", f, at, nil)
	}
}

// P8.1: Longest and Nearest

func TestKnown(t *testing.T) {
	for _, x := range []struct {
		text string
		at   int
		want []api.Token
	}{
		{"abcabcabc", 3, []api.Token{{Len: 3, Dist: 3}, {Len: 4, Dist: 3}, {Len: 5, Dist: 3}, {Len: 6, Dist: 3}}},
		{"abcabcabc", 6, []api.Token{{Len: 3, Dist: 3}}},
		{"abcabcabc", 5, []api.Token{{Len: 3, Dist: 3}, {Len: 4, Dist: 3}}},
		{"abcabcabc", 7, nil},
		{"abcabcabc", 0, nil},
		{"abcabcabc", 1, nil},
		{"abcabcabc", 2, nil},
		{"aaa", 1, nil},
		{"aaaa", 1, []api.Token{{Len: 3, Dist: 1}}},
		{"aaaaa", 2, []api.Token{{Len: 3, Dist: 1}}},
		{"aaaaa", 1, []api.Token{{Len: 3, Dist: 1}, {Len: 4, Dist: 1}}},
		{"abab", 2, nil}, // two bytes are no match
		{"ababa", 2, []api.Token{{Len: 3, Dist: 2}}},
		{"abcdeabcabcde", 8, []api.Token{{Len: 3, Dist: 3}, {Len: 4, Dist: 8}, {Len: 5, Dist: 8}}},
		{"abcdeabcabcd", 8, []api.Token{{Len: 3, Dist: 3}, {Len: 4, Dist: 8}}},
		{"abcdeabcabc", 8, []api.Token{{Len: 3, Dist: 3}}},
		{"abcdabcdabcd", 8, []api.Token{{Len: 3, Dist: 4}, {Len: 4, Dist: 4}}}, // of two equally long ones the nearest
		{"abcx_abcy_abcz", 10, []api.Token{{Len: 3, Dist: 5}}},
		{"abcdef_abcd_abcde_abc_abcdef", 22, []api.Token{{Len: 3, Dist: 4}, {Len: 4, Dist: 10}, {Len: 5, Dist: 10}, {Len: 6, Dist: 22}}},
		{"abc\xff_abc\x00_abc\x80_abc\xff", 15, []api.Token{{Len: 3, Dist: 5}, {Len: 4, Dist: 15}}},
		{"abc\xff_abc\x00_abc\x80_abc\x00", 15, []api.Token{{Len: 3, Dist: 5}, {Len: 4, Dist: 10}}},
		{"\x00\x00\x00\x00", 1, []api.Token{{Len: 3, Dist: 1}}},
	} {
		checkAt(t, x.text, finder(t, []byte(x.text)), x.at, x.want)
		if !slices.Equal(plainNearest([]byte(x.text), x.at), x.want) {
			t.Errorf("%q at %d: the model says otherwise", x.text, x.at)
		}
	}
}

// All short texts of few kinds of bytes.
func TestShort(t *testing.T) {
	for kinds, longest := range map[int]int{1: 20, 2: 13, 3: 8, 4: 6} {
		for size := range longest + 1 {
			text := make([]byte, size)
			for more := true; more; more = step(text, kinds) {
				checkAll(t, string(text), text)
			}
		}
	}
}

// step makes the next text of its kinds of bytes, if there is one.
func step(text []byte, kinds int) bool {
	for i := range text {
		if text[i]++; int(text[i]) < kinds {
			return true
		}
		text[i] = 0
	}
	return false
}

func TestMiddling(t *testing.T) {
	t.Parallel()
	for _, size := range []int{200, 333, 777, 1500} {
		for name, text := range sorts(size) {
			checkAll(t, name, text)
		}
	}
	seed := uint64(1)
	for range 150 {
		size, kinds, longest := 1+pick(&seed, 900), 1+pick(&seed, 6), 1+pick(&seed, 300)
		checkAll(t, "copied", copied(&seed, size, kinds, longest))
	}
}

// Texts longer than the window, some up to the limit, at some places.
func TestLong(t *testing.T) {
	t.Parallel()
	for _, size := range []int{32769, 70001, 1 << 20} {
		for name, text := range sorts(size) {
			f := finder(t, text)
			seed := uint64(2)
			places := []int{0, 1, 2, 3, 32767, 32768, 32769, size - 259, size - 258, size - 257, size - 4, size - 3, size - 2, size - 1}
			for range 8 {
				places = append(places, pick(&seed, size))
			}
			for _, at := range places {
				if at < size {
					checkAt(t, name, f, at, plainNearest(text, at))
				}
			}
			checkSound(t, name, text, f)
		}
	}
}

// checkSound holds all places against what can be told without the model: matches of all lengths up to the longest, with distances that never decrease (P8.2).
func checkSound(t *testing.T, name string, text []byte, f *Finder) {
	t.Helper()
	for at := range text {
		length, before := 2, 0
		for n, dist := range f.Nearest(at) {
			if n != length+1 || dist < before {
				t.Fatalf("%s at %d: %d at distance %d behind %d at distance %d", name, at, n, dist, length, before)
			}
			if dist > before && !bytes.Equal(text[at:at+n], text[at-dist:at-dist+n]) {
				t.Fatalf("%s at %d: no match of %d at distance %d", name, at, n, dist)
			}
			length, before = n, dist
		}
		m, ok := f.Longest(at)
		if ok != (length > 2) || ok && (m != api.Token{Len: length, Dist: before}) || ok && !Verify(text, at, m) {
			t.Fatalf("%s at %d: longest %v %v, want %d at distance %d", name, at, m, ok, length, before)
		}
	}
}

// The farthest distance, and one more.
func TestFarthest(t *testing.T) {
	t.Parallel()
	seed := uint64(3)
	for _, piece := range []string{"ABC", "ABCDEFGH", strings.Repeat("ABC", 30), strings.Repeat("A", 100)} {
		for _, dist := range []int{32766, 32767, 32768, 32769, 32770, 65536} {
			for _, before := range []int{0, 1, 5, 40000} {
				text := slices.Concat(some(&seed, before, 26), []byte(piece), some(&seed, dist-len(piece), 26), []byte(piece), some(&seed, 20, 26))
				f := finder(t, text)
				for at := before + dist - 3; at < len(text); at++ {
					checkAt(t, piece, f, at, plainNearest(text, at))
				}
				if m, ok := f.Longest(before + dist); len(piece) < 90 && (ok != (dist <= 32768) || ok && m.Dist != dist) {
					t.Errorf("%s at %d: %v %v", piece, dist, m, ok)
				}
			}
		}
	}
}

// A longer match beyond the window, with shorter ones within it, and the other way round.
func TestWindowMoves(t *testing.T) {
	t.Parallel()
	seed := uint64(4)
	for _, dists := range [][]int{{32768, 20000, 10000, 100}, {32769, 20000, 10000, 100}, {32760, 32750, 32000, 50}, {33000, 32769, 32768, 32767}} {
		for order := range 24 {
			lengths := []int{3, 7, 11, 15}
			for i := range 3 {
				j := i + order/[]int{1, 4, 12}[i]%(4-i)
				lengths[i], lengths[j] = lengths[j], lengths[i]
			}
			piece := "ABCDEFGHIJKLMNOP"
			text := some(&seed, 40000, 26)
			at := 36000
			copy(text[at:], piece)
			for i, dist := range dists {
				copy(text[at-dist:], piece[:lengths[i]])
			}
			f := finder(t, text)
			for place := at - 40; place < at+40; place++ {
				checkAt(t, "window", f, place, plainNearest(text, place))
			}
		}
	}
}

// The greatest length, and the end of the text.
func TestLengths(t *testing.T) {
	seed := uint64(5)
	for _, same := range []int{2, 3, 4, 10, 11, 12, 18, 19, 20, 255, 256, 257, 258, 259, 260, 300, 600} {
		piece := some(&seed, same, 200)
		for _, ends := range []bool{true, false} {
			text := slices.Concat(piece, []byte{201}, piece)
			if !ends {
				text = append(text, 202)
			}
			checkAll(t, "lengths", text)
			m, ok := finder(t, text).Longest(same + 1)
			if want := (api.Token{Len: min(same, 258), Dist: same + 1}); ok != (same >= 3) || ok && m != want {
				t.Errorf("%d alike: %v %v", same, m, ok)
			}
		}
	}
	for size := range 600 {
		text := make([]byte, size)
		if m, ok := finder(t, text).Longest(1); ok != (size >= 4) || ok && m != (api.Token{Len: min(size-1, 258), Dist: 1}) {
			t.Errorf("%d zeros: %v %v", size, m, ok)
		}
	}
}

// Places that have 258 bytes in common, or all up to the end, and are followed by what differs.
func TestEqualPlaces(t *testing.T) {
	t.Parallel()
	seed := uint64(6)
	for _, same := range []int{256, 257, 258, 259, 261} {
		piece := string(some(&seed, same, 3))
		text := piece + "x" + piece + "y" + piece + "x" + piece[:200] + "z" + piece[1:] + "y" + piece[5:]
		for cut := range 30 {
			checkAll(t, "equal places", []byte(text[:len(text)-cut]))
		}
	}
}

// The answers don't hang on which places were asked for before.
func TestAnyOrder(t *testing.T) {
	seed := uint64(7)
	text := copied(&seed, 3000, 4, 60)
	f := finder(t, text)
	for at := len(text) - 1; at >= 0; at-- {
		checkAt(t, "backward", f, at, plainNearest(text, at))
	}
	for range 2000 {
		at := pick(&seed, len(text))
		checkAt(t, "any order", f, at, plainNearest(text, at))
	}
}

// P8.1: the iterator

func TestLoopsEnd(t *testing.T) {
	seed := uint64(8)
	text := copied(&seed, 2000, 3, 100)
	f := finder(t, text)
	for at := range text {
		want := plainNearest(text, at)
		list := f.Nearest(at)
		for count := range want {
			var got []api.Token
			list(func(n, dist int) bool {
				got = append(got, api.Token{Len: n, Dist: dist})
				return len(got) <= count
			})
			if !slices.Equal(got, want[:count+1]) {
				t.Fatalf("left behind %d: %v, want %v", count+1, got, want)
			}
		}
		checkAt(t, "after loops that were left", f, at, want)
	}
}

// An iterator may be gone through several times, and within a loop over another.
func TestLoopsWithin(t *testing.T) {
	seed := uint64(9)
	text := copied(&seed, 400, 3, 100)
	f := finder(t, text)
	for at := range text {
		other := pick(&seed, len(text))
		want, inner := plainNearest(text, at), plainNearest(text, other)
		list := f.Nearest(at)
		for range 2 {
			var got []api.Token
			for n, dist := range list {
				got = append(got, api.Token{Len: n, Dist: dist})
				checkAt(t, "within", f, other, inner)
			}
			if !slices.Equal(got, want) {
				t.Fatalf("at %d: %v, want %v", at, got, want)
			}
		}
	}
}

// Several may ask one finder at once, as asking changes nothing.
func TestAtOnce(t *testing.T) {
	seed := uint64(10)
	text := copied(&seed, 3000, 3, 100)
	f := finder(t, text)
	wrong := make([]int, 8)
	var all sync.WaitGroup
	for i := range wrong {
		all.Go(func() {
			for at := i; at < len(text); at += 3 {
				if !slices.Equal(nearest(f, at), plainNearest(text, at)) {
					wrong[i]++
				}
			}
		})
	}
	all.Wait()
	if !slices.Equal(wrong, make([]int, 8)) {
		t.Error(wrong)
	}
}

// P8.1: Verify

func TestVerifyKnown(t *testing.T) {
	for _, x := range []struct {
		text string
		at   int
		t    api.Token
		want bool
	}{
		{"abcabcabc", 3, api.Token{Len: 6, Dist: 3}, true},
		{"abcabcabc", 3, api.Token{Len: 5, Dist: 3}, true}, // not the longest
		{"abcabcabc", 6, api.Token{Len: 3, Dist: 6}, true}, // not the nearest
		{"abcabcabc", 3, api.Token{Len: 7, Dist: 3}, false},
		{"abcabcabc", 2, api.Token{Len: 3, Dist: 3}, false},
		{"abcabcabc", 3, api.Token{Len: 2, Dist: 3}, false},
		{"abcabcabc", 3, api.Token{Len: 0, Dist: 3}, false},
		{"abcabcabc", 3, api.Token{Len: 0, Dist: 'a'}, false}, // a literal
		{"abcabcabc", 3, api.Token{Len: -3, Dist: 3}, false},
		{"abcabcabc", 3, api.Token{Len: 3, Dist: 0}, false},
		{"abcabcabc", 3, api.Token{Len: 3, Dist: -3}, false},
		{"abcabcabc", 3, api.Token{Len: 3, Dist: 2}, false},
		{"abcabcabc", 3, api.Token{Len: 3, Dist: 4}, false},
		{"abcabcabc", 0, api.Token{Len: 3, Dist: 3}, false},
		{"abcabcabc", 7, api.Token{Len: 3, Dist: 3}, false},
		{"abcabcabc", 9, api.Token{Len: 3, Dist: 3}, false},
		{"abcabcabc", -1, api.Token{Len: 3, Dist: 3}, false},
		{"", 0, api.Token{Len: 3, Dist: 1}, false},
		{"aaaa", 1, api.Token{Len: 3, Dist: 1}, true},
		{"aaaa", 1, api.Token{Len: 4, Dist: 1}, false},
		{"aaab", 1, api.Token{Len: 3, Dist: 1}, false},
	} {
		if got := Verify([]byte(x.text), x.at, x.t); got != x.want || plainIs([]byte(x.text), x.at, x.t) != x.want {
			t.Errorf("%q at %d, %v: %v", x.text, x.at, x.t, got)
		}
	}
}

// All tokens and places around some short texts, and numbers far off.
func TestVerifyAll(t *testing.T) {
	seed := uint64(11)
	for _, text := range [][]byte{nil, []byte("a"), []byte("aaa"), []byte("aaaaaaaa"), []byte("abcabcabc"), []byte("abababab"), []byte("aabaabaa"), some(&seed, 12, 2), some(&seed, 14, 2)} {
		for at := -3; at < len(text)+4; at++ {
			for length := -2; length < len(text)+4; length++ {
				for dist := -3; dist < len(text)+4; dist++ {
					x := api.Token{Len: length, Dist: dist}
					if got := Verify(text, at, x); got != plainIs(text, at, x) {
						t.Fatalf("%q at %d, %v: %v", text, at, x, got)
					}
				}
			}
		}
		for _, n := range wild {
			for _, near := range []int{1, 3, 4, 258} {
				for _, x := range []api.Token{{Len: n, Dist: near}, {Len: near, Dist: n}, {Len: n, Dist: n}, {Len: n, Dist: -n}} {
					for _, at := range append([]int{0, 3, len(text)}, wild...) {
						if Verify(text, at, x) {
							t.Fatalf("%q at %d, %v", text, at, x)
						}
					}
				}
				if Verify(text, n, api.Token{Len: 3, Dist: near}) {
					t.Fatalf("%q at %d", text, n)
				}
			}
		}
	}
}

func TestVerifyLimits(t *testing.T) {
	text := make([]byte, 1<<20+400000) // no limit holds for it here
	for _, at := range []int{0, 1, 2, 257, 258, 32766, 32767, 32768, 32769, 1 << 20, 1<<20 + 1, len(text) - 259, len(text) - 258, len(text) - 257, len(text) - 3, len(text) - 2, len(text)} {
		for _, length := range []int{0, 1, 2, 3, 4, 257, 258, 259, 260, 300, 65539} {
			for _, dist := range []int{0, 1, 2, 3, 257, 258, 32767, 32768, 32769, 32770, 65536, 65537} {
				x := api.Token{Len: length, Dist: dist}
				want := 3 <= length && length <= 258 && 1 <= dist && dist <= 32768 && at >= dist && at+length <= len(text)
				if got := Verify(text, at, x); got != want {
					t.Fatalf("at %d, %v: %v", at, x, got)
				}
			}
		}
	}
}

// A match with any one of its bytes, or of those it repeats, changed.
func TestVerifyChanged(t *testing.T) {
	seed := uint64(12)
	for _, length := range []int{3, 4, 7, 8, 9, 100, 258} {
		for _, dist := range []int{1, 2, 3, 100, 300, 32768} {
			text := some(&seed, dist, 250)
			for range length {
				text = append(text, text[len(text)-dist])
			}
			x := api.Token{Len: length, Dist: dist}
			if !Verify(text, dist, x) {
				t.Fatal(x)
			}
			for _, i := range []int{dist, dist + 1, dist + length/2, dist + length - 1, 0, min(dist, length) - 1} {
				text[i] ^= 1
				if got := Verify(text, dist, x); got != plainIs(text, dist, x) || got {
					t.Fatal(x, i, got)
				}
				text[i] ^= 1
			}
		}
	}
}

// Verify takes exactly the matches, and so all that a finder finds and none that is nearer than the nearest one.
func TestVerifyAndNearest(t *testing.T) {
	seed := uint64(13)
	text := copied(&seed, 500, 3, 40)
	f := finder(t, text)
	for at := range text {
		found := nearest(f, at)
		for length := 3; length <= 258; length++ {
			least := 0
			for dist := 1; dist <= at && least == 0; dist++ {
				if Verify(text, at, api.Token{Len: length, Dist: dist}) {
					least = dist
				}
			}
			if i := length - 3; least == 0 && i < len(found) || least > 0 && (i >= len(found) || found[i] != api.Token{Len: length, Dist: least}) {
				t.Fatalf("at %d, %d bytes: %d, found %v", at, length, least, found)
			}
		}
	}
}

// P8.2

func TestDistancesNeverDecrease(t *testing.T) {
	grows := 0
	for name, text := range sorts(50000) {
		f := finder(t, text)
		for at := range text {
			last := 0
			for n, dist := range f.Nearest(at) {
				if dist < last {
					t.Fatalf("%s at %d: %d behind %d, for %d bytes", name, at, dist, last, n)
				}
				if last > 0 && dist > last {
					grows++
				}
				last = dist
			}
		}
	}
	if grows < 100000 {
		t.Error("only", grows)
	}
}

// P8.3

func TestTextStays(t *testing.T) {
	seed := uint64(14)
	for _, size := range []int{0, 1, 5, 1000} {
		text := copied(&seed, size+300, 3, 50)[:size]
		held := slices.Clone(text[:cap(text)])
		f := finder(t, text)
		for at := -1; at <= size; at++ {
			checkAt(t, "held", f, at, plainNearest(held[:size], at))
			Verify(text, at, api.Token{Len: 3, Dist: 1})
		}
		if !bytes.Equal(text[:cap(text)], held) {
			t.Fatal("written over")
		}
		lists := make([]func(func(int, int) bool), size)
		for at := range lists {
			lists[at] = f.Nearest(at)
		}
		for i := range text[:cap(text)] {
			text[:cap(text)][i] ^= byte(1 + i)
		}
		for at := range text {
			checkAt(t, "changed since", f, at, plainNearest(held[:size], at))
			var got []api.Token
			for n, dist := range lists[at] {
				got = append(got, api.Token{Len: n, Dist: dist})
			}
			if !slices.Equal(got, plainNearest(held[:size], at)) {
				t.Fatal("an iterator reads the argument")
			}
		}
	}
}

// What stands in the room behind a text is not part of it.
func TestRoomBehind(t *testing.T) {
	whole := []byte("abcabcabcabc")
	for size := range whole {
		checkAll(t, "room behind", whole[:size])
		for at := range whole {
			x := api.Token{Len: 3, Dist: 3}
			if Verify(whole[:size], at, x) != (at >= 3 && at+3 <= size) {
				t.Error(size, at)
			}
		}
	}
}

// Two finders have nothing in common.
func TestApart(t *testing.T) {
	one, two := []byte("abcabcabc"), []byte("xabcdxabcd")
	f := finder(t, one)
	g := finder(t, two)
	for at := range 12 {
		checkAt(t, "one", f, at, plainNearest(one, at))
		checkAt(t, "two", g, at, plainNearest(two, at))
	}
}
