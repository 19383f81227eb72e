package squeeze

import (
	"iter"
	"slices"

	"burnish/api"
	"burnish/block"
)

const (
	mostPieces = 64  // that are tried at first
	leastPiece = 64  // tokens of one of these
	finest     = 512 // no place is moved by so small a part of a piece
)

// Split is tokens as blocks.
func Split(tokens []api.Token, text []byte) ([]block.Block, error) {
	whole, err := measure(tokens, text)
	if err != nil {
		return nil, err
	}
	list, err := divide(tokens, text)
	if err != nil {
		return nil, err
	}
	// Blocks of which no two are better joined may still be better as one.
	if total(list) >= whole.bits {
		list = []sized{whole}
	}
	var out []block.Block
	for _, b := range list {
		out = append(out, b.Block)
	}
	return out, nil
}

// divide is valid tokens as blocks: small ones first, which are joined, and then the places between those that are left are moved.
func divide(tokens []api.Token, text []byte) ([]sized, error) {
	size := max(leastPiece, (len(tokens)+mostPieces-1)/mostPieces)
	list, err := measureAll(pieces(tokens, text, multiples(size, len(tokens))...))
	if err != nil {
		return nil, err
	}
	list, err = joinAll(list)
	if err != nil {
		return nil, err
	}
	return list, refine(list, size)
}

// pieces is tokens that are cut at rising places, each piece with what it stands for.
func pieces(tokens []api.Token, text []byte, places ...int) iter.Seq2[[]api.Token, []byte] {
	return func(yield func([]api.Token, []byte) bool) {
		from, begin := 0, 0
		for _, to := range slices.Concat(places, []int{len(tokens)}) {
			end := begin
			for _, t := range tokens[from:to] {
				end += max(t.Len, 1)
			}
			if !yield(tokens[from:to], text[begin:end]) {
				return
			}
			from, begin = to, end
		}
	}
}

// multiples is those of a number, from itself on, that are below an end.
func multiples(n, end int) []int {
	var out []int
	for at := n; at < end; at += n {
		out = append(out, at)
	}
	return out
}

// sized is a block with its bits.
type sized struct {
	block.Block
	bits int
}

// measure is the best block of tokens.
func measure(tokens []api.Token, text []byte) (sized, error) {
	b, err := block.Best(tokens, text)
	if err != nil {
		return sized{}, err
	}
	n, err := block.Bits(b)
	return sized{b, n}, err
}

// measureAll is the best block of each piece.
func measureAll(all iter.Seq2[[]api.Token, []byte]) ([]sized, error) {
	var out []sized
	for tokens, text := range all {
		b, err := measure(tokens, text)
		if err != nil {
			return nil, err
		}
		out = append(out, b)
	}
	return out, nil
}

// total is how many bits blocks have together.
func total(list []sized) int {
	sum := 0
	for _, b := range list {
		sum += b.bits
	}
	return sum
}

// joinAll joins neighbours as long as two have no fewer bits than they have as one, those first that save the most.
func joinAll(list []sized) ([]sized, error) {
	var pairs []sized // by the first of two neighbours: both as one
	for i := 1; i < len(list); i++ {
		pair, err := join(list[i-1], list[i])
		if err != nil {
			return nil, err
		}
		pairs = append(pairs, pair)
	}
	for {
		at, ok := mostSaved(list, pairs)
		if !ok {
			return list, nil
		}
		list = slices.Replace(list, at, at+2, pairs[at])
		pairs = slices.Delete(pairs, at, at+1)
		for i := max(at-1, 0); i < min(at+1, len(pairs)); i++ {
			pair, err := join(list[i], list[i+1])
			if err != nil {
				return nil, err
			}
			pairs[i] = pair
		}
	}
}

// join is the best block of what two neighbours have.
func join(a, b sized) (sized, error) {
	return measure(slices.Concat(a.Tokens, b.Tokens), slices.Concat(a.Text, b.Text))
}

// mostSaved is the first of the neighbours that save the most bits as one, or false if none have no more bits so.
func mostSaved(list, pairs []sized) (int, bool) {
	most, best, ok := 0, 0, false
	for i, pair := range pairs {
		saved := list[i].bits + list[i+1].bits - pair.bits
		if saved > most || saved == most && !ok {
			most, best, ok = saved, i, true
		}
	}
	return best, ok
}

// refine moves the places between blocks, by steps that begin with half a piece's size and halve each time.
func refine(list []sized, size int) error {
	for step := size / 2; step > size/finest; step /= 2 {
		for i := 1; i < len(list); i++ {
			if err := move(list[i-1:i+1], step); err != nil {
				return err
			}
		}
	}
	return nil
}

// move moves the place between two neighbours by so many tokens, backward or forward, if they have fewer bits so.
func move(two []sized, by int) error {
	tokens := slices.Concat(two[0].Tokens, two[1].Tokens)
	text := slices.Concat(two[0].Text, two[1].Text)
	place := len(two[0].Tokens)
	for _, at := range []int{place - by, place + by} {
		if at <= 0 || at >= len(tokens) {
			continue
		}
		moved, err := measureAll(pieces(tokens, text, at))
		if err != nil {
			return err
		}
		if total(moved) < total(two) {
			copy(two, moved)
			return nil
		}
	}
	return nil
}
