package match

import (
	"slices"
	"strings"

	"burnish/api"
)

// This file has the chapter's definitions, as plainly as they can be written, and the texts that are held against them.

// plainIs tells, byte by byte, whether a token is a match.
func plainIs(text []byte, at int, t api.Token) bool {
	if t.Len < 3 || t.Len > 258 || t.Dist < 1 || t.Dist > 32768 {
		return false
	}
	for i := range t.Len {
		to := at + i
		if at < 0 || to >= len(text) || to-t.Dist < 0 || text[to] != text[to-t.Dist] {
			return false
		}
	}
	return true
}

// plainNearest is the nearest matches of all lengths at a place, the shortest first.
func plainNearest(text []byte, at int) []api.Token {
	var out []api.Token
	if at < 0 || at >= len(text) {
		return nil
	}
	for dist := 1; dist <= at && dist <= 32768; dist++ {
		same := 0
		for same < 258 && at+same < len(text) && text[at+same] == text[at+same-dist] {
			same++
		}
		for len(out)+3 <= same {
			out = append(out, api.Token{Len: len(out) + 3, Dist: dist})
		}
	}
	return out
}

// pick is a number from 0 to n-1, the same each time for a seed.
func pick(seed *uint64, n int) int {
	*seed = *seed*6364136223846793005 + 1442695040888963407
	return int((*seed >> 33) % uint64(n))
}

// grown is a text of so many bytes, made of pieces.
func grown(size int, piece func() string) []byte {
	var out strings.Builder
	for out.Len() < size {
		out.WriteString(piece())
	}
	return []byte(out.String()[:size])
}

// some is a text of no pattern, of so many kinds of bytes.
func some(seed *uint64, size, kinds int) []byte {
	return grown(size, func() string { return string([]byte{byte(pick(seed, kinds))}) })
}

// copied is a text of which pieces up to a length come again, some of them with the byte behind them changed.
func copied(seed *uint64, size, kinds, longest int) []byte {
	out := some(seed, min(size, 3), kinds)
	for len(out) < size {
		if pick(seed, 3) == 0 {
			out = append(out, byte(pick(seed, kinds)))
			continue
		}
		dist := 1 + pick(seed, min(len(out), 40000))
		for range pick(seed, longest) {
			out = append(out, out[len(out)-dist])
		}
	}
	return out[:size]
}

// runs is runs of one byte up to a length, with another between them.
func runs(seed *uint64, size, longest int) []byte {
	return grown(size, func() string { return strings.Repeat("a", pick(seed, longest)) + "b" })
}

// counted is numbers of two bytes behind so many zeros each.
func counted(size, zeros int, number func(i int) int) []byte {
	i := 0
	return grown(size, func() string {
		n := number(i)
		i++
		return strings.Repeat("\x00", zeros) + string([]byte{byte(n >> 8), byte(n)})
	})
}

// fibonacci is a text whose pieces come again and again at all lengths.
func fibonacci(size int) []byte {
	a, b := []byte("a"), []byte("ab")
	for len(b) < size {
		a, b = b, slices.Concat(b, a)
	}
	return b[:size]
}

// sorts is texts of so many bytes, of sorts that are hard in one way or another.
func sorts(size int) map[string][]byte {
	seed := uint64(size)
	half := some(&seed, size/2, 256)
	high := func(i int) int { return 10000 + i%200*(i%2) + i%3000*(1-i%2) }
	return map[string][]byte{
		"zeros":        make([]byte, size),
		"none alike":   some(&seed, size, 256),
		"two kinds":    some(&seed, size, 2),
		"four kinds":   some(&seed, size, 4),
		"copied short": copied(&seed, size, 3, 20),
		"copied long":  copied(&seed, size, 200, 400),
		"runs short":   runs(&seed, size, 10),
		"runs long":    runs(&seed, size, 250),
		"runs longest": runs(&seed, size, 600),
		"rising":       counted(size, 3, func(i int) int { return i }),
		"falling":      counted(size, 3, func(i int) int { return -i }),
		"to and fro":   counted(size, 3, high),
		"far and wide": counted(size, 150, high),
		"fibonacci":    fibonacci(size),
		"period 300":   grown(size, func() string { return strings.Repeat("ab", 149) + "cd" }),
		"period 32768": grown(size, func() string { return string(copied(&seed, 32768, 256, 3)) }),
		"two halves":   slices.Concat(half, make([]byte, size%2), half),
	}
}
