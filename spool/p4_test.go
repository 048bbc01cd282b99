package spool_test

import (
	"strings"
	"testing"

	"spool/api"
	"spool/spool"
)

func TestP4Examples(t *testing.T) {
	inflates(t, []byte{3, 0}, 0, "", 2)
	inflates(t, []byte{75, 4, 0}, 9, "a", 3)
	inflates(t, []byte{1, 2, 0, 253, 255, 7, 8}, 9, "\x07\x08", 7)
}

func TestP4BytesBehindDoNotCount(t *testing.T) {
	for want, b := range samples() {
		for _, behind := range []string{"", "\x00", "\xff", "behind"} {
			inflates(t, append(b[:len(b):len(b)], behind...), len(want), want, len(b))
		}
	}
}

// TestP4LastByteCountsWhole ends a stream at each bit of a byte: n literals of nine bits, of 10 + 9 * n bits in all.
func TestP4LastByteCountsWhole(t *testing.T) {
	for n := range 17 {
		words := "1:1 2:1 " + strings.Repeat("110010000 ", n) + "0000000"
		want := strings.Repeat("\x90", n)
		used := (10 + 9*n + 7) / 8
		inflates(t, stream(words), 99, want, used)
		inflates(t, append(stream(words), 0), 99, want, used)
		refuses(t, stream(words)[:used-1], 99, api.ErrShort)
		// bits behind the end, in its own byte, are nobody's
		b := stream(words + " 1111111")[:used]
		inflates(t, b, 99, want, used)
	}
}

func TestP4StopsAtTheLastBlock(t *testing.T) {
	inflates(t, []byte{1, 1, 0, 254, 255, 'a', 1, 1, 0, 254, 255, 'b'}, 9, "a", 6)
	inflates(t, []byte{0, 1, 0, 254, 255, 'a', 1, 1, 0, 254, 255, 'b'}, 9, "ab", 12)
	inflates(t, stream("1:1 2:1 01111000 0000000 1:1 2:3"), 9, "H", 3)
}

func TestP4NothingMayComeOut(t *testing.T) {
	for _, b := range [][]byte{{3, 0}, {1, 0, 0, 255, 255}, stream(dynamicStart + "11 7:127 11 7:107 01 00 0")} {
		if out, n, e := spool.Inflate(b, 0); len(out) != 0 || n != len(b) || e != api.OK {
			t.Errorf("Inflate(%v, 0) = %v, %d, %d", b, out, n, e)
		}
	}
}
