package block

import (
	"burnish/bits"
	"burnish/inflate"
)

const blockEnd = 256 // the symbol

// pen writes what blocks have, up to the first error.
type pen struct {
	*bits.Writer
	err error
}

// number writes a number of so many bits.
func (p *pen) number(n, count int) {
	if p.err == nil {
		p.err = p.Put(n, count)
	}
}

// symbol writes a symbol's code, and the number in its extra bits.
func (p *pen) symbol(t table, symbol, above int) {
	if p.err == nil {
		p.err = t.book.Write(p.Writer, symbol)
	}
	p.number(above, t.extra(symbol))
}

// head writes what each block begins with.
func (p *pen) head(kind int, last bool) {
	if last {
		p.number(1, 1)
	} else {
		p.number(0, 1)
	}
	p.number(kind, 2)
}

// stored writes what follows the kind in a block of kind 0.
func (p *pen) stored(text []byte) {
	p.Align()
	p.number(len(text), sizeBits)
	p.number(len(text)^mostStored, sizeBits)
	for _, b := range text {
		p.number(int(b), 8)
	}
}

// body writes what follows the kind in the others.
func (p *pen) body(x body) {
	if x.header != nil {
		p.header(x.header)
	}
	for _, t := range x.tokens {
		if t.Len == 0 {
			p.symbol(x.literals, t.Dist, 0)
			continue
		}
		length, _ := inflate.LengthSymbol(t.Len)
		p.match(x.literals, length, t.Len)
		dist, _ := inflate.DistSymbol(t.Dist)
		p.match(x.dists, dist, t.Dist)
	}
	p.symbol(x.literals, blockEnd, 0)
}

// match writes a length or a distance by its symbol.
func (p *pen) match(t table, symbol, n int) {
	base, _, _ := t.base(symbol)
	p.symbol(t, symbol, n-base)
}

// header writes what a block of kind 2 says of its codes.
func (p *pen) header(h *header) {
	p.number(h.literals-leastLiterals, literalsBits)
	p.number(h.dists-leastDists, distsBits)
	p.number(len(h.own)-leastOwn, ownBits)
	for _, length := range h.own {
		p.number(length, lengthBits)
	}
	for _, r := range h.runs {
		p.symbol(h.table, r.Symbol, r.Extra)
	}
}
