package match

import (
	"math/bits"

	"burnish/api"
)

// none stands where there is no place.
const none = -1

// forest holds the places of a text that were entered, those that begin with the same three bytes in a tree.
//
// A tree is ordered in two ways. From left to right, its places are in the order of what stands there. And none is later than the one above it: so among the places with the same first bytes, the latest one lies above all others, and on the way down to any place that begins so too.
type forest struct {
	text  []byte
	tops  map[[api.MinLen]byte]int32
	below [][2]int32 // by place: the next ones to its left and to its right
}

// newForest is a text's forest, without places.
func newForest(text []byte) *forest {
	return &forest{text, map[[api.MinLen]byte]int32{}, make([][2]int32, len(text))}
}

// enter enters the place behind those that were entered before, and appends its records, the nearest first.
func (f *forest) enter(at int, out []record) []record {
	own := f.text[at:min(at+api.MaxLen, len(f.text))]
	if len(own) < api.MinLen {
		return out
	}
	next := f.crown(at, [api.MinLen]byte(own))
	// The tree is split into what is less than the new place and what is greater, which go to its sides. At both, the way down tells where the next part hangs, and how many bytes the last part has in common with the new place.
	left, right := &f.below[at][0], &f.below[at][1]
	lesser, greater, longest := api.MinLen, api.MinLen, 0
	for next != none && at-int(next) <= api.MaxDist {
		same := min(lesser, greater)
		same += common(own[same:], f.text[int(next)+same:])
		if same > longest {
			longest = same
			out = append(out, record{uint16(same), uint16(at - int(next))})
		}
		sides := &f.below[next]
		if same == len(own) {
			// The new place stands in for this one, as it has the same bytes as far as any later place can ask for.
			*left, *right = sides[0], sides[1]
			return out
		}
		if f.text[int(next)+same] < own[same] {
			*left, left, lesser = next, &sides[1], same
			next = *left
		} else {
			*right, right, greater = next, &sides[0], same
			next = *right
		}
	}
	// What is too far from here is too far from all later places.
	*left, *right = none, none
	return out
}

// crown puts a place at the top of the tree of its first bytes, and answers the one that was there.
func (f *forest) crown(at int, start [api.MinLen]byte) int32 {
	top, ok := f.tops[start]
	f.tops[start] = int32(at)
	if !ok {
		return none
	}
	return top
}

// common is how many bytes a and b begin with alike.
func common(a, b []byte) int {
	n := 0
	for len(a)-n >= 8 && len(b)-n >= 8 {
		if differ := word(a[n:]) ^ word(b[n:]); differ != 0 {
			return n + bits.TrailingZeros64(differ)/8
		}
		n += 8
	}
	for n < len(a) && n < len(b) && a[n] == b[n] {
		n++
	}
	return n
}

// word is eight bytes as one number, the lowest first: so many can be compared at once.
func word(b []byte) uint64 {
	_ = b[7]
	return uint64(b[0]) | uint64(b[1])<<8 | uint64(b[2])<<16 | uint64(b[3])<<24 | uint64(b[4])<<32 | uint64(b[5])<<40 | uint64(b[6])<<48 | uint64(b[7])<<56
}
