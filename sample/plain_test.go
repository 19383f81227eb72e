package sample

import (
	"strings"

	"burnish/api"
)

// Here is what the tests hold the package against: numbers as texts of 0 and 1. A number is widened by repeating its bits till there are sixteen.

// depths is those that there are.
var depths = []int{1, 2, 4, 8, 16}

// pick is a number from 0 to n-1, the same each time for a seed.
func pick(seed *uint64, n int) int {
	*seed = *seed*6364136223846793005 + 1442695040888963407
	return int((*seed >> 33) % uint64(n))
}

// someNumbers is that many numbers of a depth, with many at both ends.
func someNumbers(seed *uint64, count, depth int) []int {
	out := make([]int, count)
	for i := range out {
		switch pick(seed, 5) {
		case 0:
			out[i] = 1<<depth - 1
		case 1:
			out[i] = 0
		default:
			out[i] = pick(seed, 1<<depth)
		}
	}
	return out
}

func someBytes(seed *uint64, count int) []byte {
	out := make([]byte, count)
	for i := range out {
		out[i] = byte(pick(seed, 256))
	}
	return out
}

// text is the bits of a number, its highest first.
func text(n, count int) string {
	out := make([]byte, count)
	for i := range out {
		out[i] = '0' + byte(n>>(count-1-i)&1)
	}
	return string(out)
}

// number is what a text of bits stands for.
func number(text string) int {
	n := 0
	for _, r := range text {
		n = 2*n + int(r-'0')
	}
	return n
}

func isDepth(depth int) bool {
	for _, d := range depths {
		if d == depth {
			return true
		}
	}
	return false
}

func plainPack(list []int, depth int) ([]byte, error) {
	if !isDepth(depth) || len(list) > 1048576 {
		return nil, api.ErrForm
	}
	var bits strings.Builder
	for _, n := range list {
		if n < 0 || n > number(strings.Repeat("1", depth)) {
			return nil, api.ErrRange
		}
		bits.WriteString(text(n, depth))
	}
	for bits.Len()%8 != 0 {
		bits.WriteByte('0')
	}
	var out []byte
	for all := bits.String(); len(all) > 0; all = all[8:] {
		out = append(out, byte(number(all[:8])))
	}
	return out, nil
}

// plainSize is how many bytes numbers need, counted one by one.
func plainSize(depth, count int) int {
	size, free := 0, 0
	for range count {
		for range depth {
			if free == 0 {
				size++
				free = 8
			}
			free--
		}
	}
	return size
}

func plainUnpack(row []byte, depth, count int) ([]int, error) {
	if !isDepth(depth) || count < 0 || count > 1048576 || len(row) != plainSize(depth, count) {
		return nil, api.ErrForm
	}
	var bits strings.Builder
	for _, b := range row {
		bits.WriteString(text(int(b), 8))
	}
	var out []int
	for i := range count {
		out = append(out, number(bits.String()[i*depth:(i+1)*depth]))
	}
	return out, nil
}

func plainWiden(n, depth int) (int, error) {
	if !isDepth(depth) {
		return 0, api.ErrForm
	}
	if n < 0 || n > number(strings.Repeat("1", depth)) {
		return 0, api.ErrRange
	}
	return number(strings.Repeat(text(n, depth), 16/depth)), nil
}

// widened is all numbers of a depth by what they are widened to.
func widened(depth int) map[int]int {
	out := map[int]int{}
	if !isDepth(depth) {
		return out
	}
	for n := range 1 << depth {
		wide, _ := plainWiden(n, depth)
		out[wide] = n
	}
	return out
}

// plainDepths is the least depth to which a number alone can be narrowed, by the number.
func plainDepths() []int {
	out := make([]int, 65536)
	for _, depth := range []int{16, 8, 4, 2, 1} {
		for wide := range widened(depth) {
			out[wide] = depth
		}
	}
	return out
}
