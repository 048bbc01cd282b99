// Package deflate writes streams (P5, P6).
package deflate

import "spool/api"

// The kinds of blocks.
const (
	stored = iota
	fixed
	dynamic
)

// Stream writes a stream of one block, of which b comes out.
func Stream(b []byte, level int) ([]byte, api.Errno) {
	if len(b) > api.MaxIn || level < 0 || level > api.MaxLevel {
		return nil, api.ErrArg
	}
	best := storedStream(b)
	if level == 0 {
		return best, api.OK
	}
	// A repeat may cost more bits than its bytes one by one, which take no more than a bit and a half each
	// if they are of two kinds: so that is tried, too.
	for _, tokens := range [][]token{singles(b), repeats(b, level)} {
		best = shorter(best, fixedStream(tokens))
		best = shorter(best, dynamicStream(tokens))
	}
	return best, api.OK
}

func shorter(a, b []byte) []byte {
	if len(b) < len(a) {
		return b
	}
	return a
}

// begin writes what every block begins with; here it is always the last one.
func begin(kind int) *output {
	o := &output{}
	o.bit(1)
	o.number(kind, 2)
	return o
}

// storedStream has room for all bytes in one block: MaxIn is less than a length of two bytes.
func storedStream(b []byte) []byte {
	o := begin(stored)
	o.passToByte()
	o.number(len(b), 16)
	o.number(^len(b), 16)
	return append(o.bytes, b...)
}
