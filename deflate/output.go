package deflate

import "spool/codes"

// output takes a stream's bits. The bits of its last byte that are not taken yet are 0.
type output struct {
	bytes []byte
	free  int // how many bits of the last byte
}

func (o *output) bit(b int) {
	if o.free == 0 {
		o.bytes = append(o.bytes, 0)
		o.free = 8
	}
	o.bytes[len(o.bytes)-1] |= byte(b) << (8 - o.free)
	o.free--
}

func (o *output) number(n, bits int) {
	for i := range bits {
		o.bit(n >> i & 1)
	}
}

func (o *output) passToByte() { o.free = 0 }

// code: the lengths of symbols, and their words, whose highest bits come first.
type code struct {
	lengths, words []int
}

func codeOf(lengths []int) code { return code{lengths, codes.Words(lengths)} }

func (o *output) symbol(c code, symbol int) {
	for i := c.lengths[symbol] - 1; i >= 0; i-- {
		o.bit(c.words[symbol] >> i & 1)
	}
}
