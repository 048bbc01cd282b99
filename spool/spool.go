// Package spool: bytes, squeezed in members: see DOC.md.
package spool

import (
	"spool/api"
	"spool/archive"
	"spool/deflate"
	"spool/inflate"
	"spool/member"
	"spool/reader"
	"spool/sum"
)

// Sum tells the sum of bytes (P2).
func Sum(b []byte) uint32 { return sum.Of(b) }

// Inflate reads a stream: what comes out, and how many bytes it has (P3, P4).
func Inflate(b []byte, limit int) ([]byte, int, api.Errno) { return inflate.Stream(b, limit) }

// Deflate writes a stream (P5, P6).
func Deflate(b []byte, level int) ([]byte, api.Errno) { return deflate.Stream(b, level) }

// Wrap makes a member (P7).
func Wrap(b []byte, level int) ([]byte, api.Errno) { return member.Wrap(b, level) }

// Unwrap reads a member (P8).
func Unwrap(b []byte) ([]byte, int, api.Errno) { return member.Unwrap(b) }

// Pack makes an archive (P9).
func Pack(b []byte, level int, workers int) ([]byte, api.Errno) {
	return archive.Pack(b, level, workers)
}

// Unpack reads an archive (P10).
func Unpack(b []byte) ([]byte, int, api.Errno) { return archive.Unpack(b) }

// Index tells where members are (P11).
func Index(b []byte) ([]api.Entry, int, api.Errno) { return archive.Index(b) }

// Reader reads parts of an archive.
type Reader struct{ inner *reader.Reader }

// Open makes a reader (P12).
func Open(b []byte, cache int) (*Reader, int, api.Errno) {
	inner, n, errno := reader.Open(b, cache)
	if errno != api.OK {
		return nil, n, errno
	}
	return &Reader{inner}, n, api.OK
}

// ReadAt reads a part (P12).
func (r *Reader) ReadAt(from int, n int) ([]byte, api.Errno) { return r.inner.ReadAt(from, n) }

// Loads tells how many members were read (P12).
func (r *Reader) Loads() int { return r.inner.Loads() }
