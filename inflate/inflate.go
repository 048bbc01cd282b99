// Package inflate reads streams (P3, P4).
package inflate

import (
	"spool/api"
	"spool/codes"
)

// The kinds of blocks.
const (
	stored = iota
	fixed
	dynamic
)

type reader struct {
	input
	out   []byte
	limit int
	fixed *pair // made when the first fixed block asks for it
}

// Stream reads the stream that b begins with: what comes out, and how many bytes it has.
func Stream(b []byte, limit int) (out []byte, used int, errno api.Errno) {
	if limit < 0 || limit > api.MaxOut {
		return nil, 0, api.ErrArg
	}
	defer func() {
		switch p := recover().(type) {
		case nil:
		case stopped:
			out, used, errno = nil, 0, p.errno
		default:
			panic(p) // a fault of the program must not pass for one of the stream
		}
	}()
	r := &reader{input: input{from: b}, limit: limit}
	r.blocks()
	return r.out, r.at, api.OK
}

func (r *reader) blocks() {
	for last := false; !last; {
		last = r.bit() == 1
		r.block(r.number(2))
	}
}

func (r *reader) block(kind int) {
	var c *pair
	switch kind {
	case stored:
		r.storedBytes()
	case fixed:
		c = r.fixedPair()
		fallthrough
	case dynamic:
		if c == nil {
			c = r.dynamicPair()
		}
		r.symbols(c)
	default:
		giveUp(api.ErrData)
	}
}

func (r *reader) storedBytes() {
	r.passToByte()
	length := r.twoBytes()
	if turned := r.twoBytes(); length^turned != 0xFFFF {
		giveUp(api.ErrData)
	}
	for range length {
		r.put(r.take())
	}
}

func (r *reader) put(c byte) {
	if len(r.out) == r.limit {
		giveUp(api.ErrLimit)
	}
	r.out = append(r.out, c)
}

func (r *reader) symbols(c *pair) {
	for {
		symbol := r.symbol(c.literals)
		switch {
		case symbol < codes.End:
			r.put(byte(symbol))
		case symbol == codes.End:
			return
		case symbol < codes.Literals:
			length := r.length(symbol)
			r.repeat(length, r.distance(c))
		default:
			giveUp(api.ErrData)
		}
	}
}

func (r *reader) symbol(c *codes.Code) int {
	symbol, ok := c.Read(r.bit)
	if !ok {
		giveUp(api.ErrData)
	}
	return symbol
}

func (r *reader) length(symbol int) int {
	least, more := codes.Length(symbol)
	return least + r.number(more)
}

func (r *reader) distance(c *pair) int {
	symbol := r.symbol(c.distances)
	if symbol >= codes.Distances {
		giveUp(api.ErrData)
	}
	least, more := codes.Distance(symbol)
	return least + r.number(more)
}

// repeat goes byte by byte: a distance may be less than the length, and then tells what it has just put.
func (r *reader) repeat(length, distance int) {
	if distance > len(r.out) {
		giveUp(api.ErrData)
	}
	for range length {
		r.put(r.out[len(r.out)-distance])
	}
}
