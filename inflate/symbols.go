package inflate

import "burnish/api"

const (
	blockEnd    = 256
	firstLength = 257 // the symbol of the least length
	lastLength  = 285 // the symbol of the greatest length, which no other length has
	lastDist    = 29

	lengthGroup = 4 // length symbols that have equally many extra bits
	distGroup   = 2 // distance symbols that have
)

// LengthBase is a length symbol's base and extra bits.
func LengthBase(symbol int) (int, int, bool) {
	if symbol < firstLength || symbol > lastLength {
		return 0, 0, false
	}
	if symbol == lastLength {
		return api.MaxLen, 0, true
	}
	above, extra := start(symbol-firstLength, lengthGroup)
	return api.MinLen + above, extra, true
}

// DistBase is a distance symbol's base and extra bits.
func DistBase(symbol int) (int, int, bool) {
	if symbol < 0 || symbol > lastDist {
		return 0, 0, false
	}
	above, extra := start(symbol, distGroup)
	return 1 + above, extra, true
}

// LengthSymbol is a length's symbol.
func LengthSymbol(n int) (int, bool) {
	if n < api.MinLen || n > api.MaxLen {
		return 0, false
	}
	if n == api.MaxLen {
		return lastLength, true
	}
	return firstLength + holder(n-api.MinLen, lengthGroup), true
}

// DistSymbol is a distance's symbol.
func DistSymbol(n int) (int, bool) {
	if n < 1 || n > api.MaxDist {
		return 0, false
	}
	return holder(n-1, distGroup), true
}

// start is how far the base of the symbol at a place, from 0 on, is above the least base, and how many extra bits it has.
// Each group covers as much as all those before it, so a base within it has the same leading bits in each.
func start(place, group int) (above, extra int) {
	if place < group {
		return place, 0
	}
	extra = place/group - 1
	return (group + place%group) << extra, extra
}

// holder is the place of the symbol that holds what is so far above the least base.
func holder(above, group int) int {
	extra := 0
	for above>>extra >= 2*group {
		extra++
	}
	return extra*group + above>>extra
}
