package spool_test

import (
	"hash/crc32"
	"slices"
	"testing"

	"spool/api"
	"spool/spool"
)

// sixteen: what every member begins with.
var sixteen = []byte{31, 139, 8, 4, 0, 0, 0, 0, 0, 255, 6, 0, 66, 67, 2, 0}

// fourBytes: a number, the lowest byte first.
func fourBytes(n int) []byte {
	return []byte{byte(n % 256), byte(n / 256 % 256), byte(n / 65536 % 256), byte(n / 16777216 % 256)}
}

// sumOf: the library's, not the program's.
func sumOf(text string) int { return int(crc32.ChecksumIEEE([]byte(text))) }

// member lays one out by hand.
func member(stream []byte, sum, count int) []byte {
	return slices.Concat(sixteen, fourBytes(25 + len(stream))[:2], stream, fourBytes(sum), fourBytes(count))
}

// memberOf: a right one, of a stream of which the text comes out.
func memberOf(stream []byte, text string) []byte { return member(stream, sumOf(text), len(text)) }

// sevenEight: a right one of 33 bytes. Its stream stands at 18, its sum at 25 and its count at 29.
func sevenEight() []byte { return memberOf([]byte{1, 2, 0, 253, 255, 7, 8}, "\x07\x08") }

// with puts another byte at a place of a copy.
func with(b []byte, at int, c byte) []byte {
	b = slices.Clone(b)
	b[at] = c
	return b
}

func unwraps(t *testing.T, b []byte, want string, size int) {
	t.Helper()
	out, n, e := spool.Unwrap(b)
	if string(out) != want || n != size || e != api.OK {
		t.Errorf("Unwrap(%s) = %.40q (%d bytes), %d, %d, want %.40q (%d bytes), %d, 0", short(b), out, len(out), n, e, want, len(want), size)
	}
}

func unwrapRefuses(t *testing.T, b []byte, want api.Errno, place int) {
	t.Helper()
	out, n, e := spool.Unwrap(b)
	if out != nil || n != place || e != want {
		t.Errorf("Unwrap(%s) = %.40q, %d, %d, want nil, %d, %d", short(b), out, n, e, place, want)
	}
}
