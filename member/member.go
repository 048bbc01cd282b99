// Package member makes and reads members (P7, P8), and looks at them without reading them (for P11).
package member

import (
	"spool/api"
	"spool/deflate"
	"spool/inflate"
	"spool/sum"
)

var head = []byte{31, 139, 8, 4, 0, 0, 0, 0, 0, 255, 6, 0, 66, 67, 2, 0}

const (
	sizeAt   = 16
	streamAt = 18
	tail     = 8  // the sum and the number behind the stream
	least    = 28 // no stream has fewer than two bytes
)

// Wrap makes a member of which b comes out.
func Wrap(b []byte, level int) ([]byte, api.Errno) {
	if len(b) > api.MaxBlock {
		return nil, api.ErrArg
	}
	stream, errno := deflate.Stream(b, level)
	if errno != api.OK {
		return nil, errno
	}
	size := streamAt + len(stream) + tail
	out := append(make([]byte, 0, size), head...)
	out = append(out, byte(size-1), byte((size-1)>>8))
	out = append(out, stream...)
	out = appendFour(out, sum.Of(b))
	return appendFour(out, uint32(len(b))), api.OK
}

// Unwrap reads the member that b begins with: what comes out, and how many bytes it has; or an error and its place.
func Unwrap(b []byte) ([]byte, int, api.Errno) {
	size, errno := length(b)
	if errno != api.OK {
		return nil, size, errno
	}
	sumAt := size - tail
	countAt := sumAt + 4
	out, used, errno := inflate.Stream(b[streamAt:sumAt], api.MaxBlock)
	switch {
	case errno != api.OK:
		return nil, streamAt, errno
	case streamAt+used != sumAt:
		return nil, streamAt + used, api.ErrData
	case four(b[sumAt:]) != sum.Of(out):
		return nil, sumAt, api.ErrSum
	case four(b[countAt:]) != uint32(len(out)):
		return nil, countAt, api.ErrSum
	}
	return out, size, api.OK
}

// Look tells of the member that b begins with how many bytes come out of it, by its last four bytes, and how many it has;
// or an error and its place. Its stream and its sum are not looked at, so what it says may be wrong.
func Look(b []byte) (uint32, int, api.Errno) {
	size, errno := length(b)
	if errno != api.OK {
		return 0, size, errno
	}
	return four(b[size-4:]), size, api.OK
}

// length tells how many bytes the member has that b begins with, by what stands ahead of its stream alone;
// or an error and its place. Without an error b has so many.
func length(b []byte) (int, api.Errno) {
	for i, c := range head {
		if i == len(b) {
			return i, api.ErrShort
		}
		if b[i] != c {
			return i, api.ErrData
		}
	}
	if len(b) < streamAt {
		return len(b), api.ErrShort
	}
	size := int(b[sizeAt]) + int(b[sizeAt+1])<<8 + 1
	switch {
	case size < least:
		return sizeAt, api.ErrData
	case len(b) < size:
		return len(b), api.ErrShort
	}
	return size, api.OK
}

func appendFour(out []byte, n uint32) []byte {
	return append(out, byte(n), byte(n>>8), byte(n>>16), byte(n>>24))
}

func four(b []byte) uint32 {
	return uint32(b[0]) | uint32(b[1])<<8 | uint32(b[2])<<16 | uint32(b[3])<<24
}
