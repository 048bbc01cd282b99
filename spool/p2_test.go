package spool_test

import (
	"hash/crc32"
	"testing"

	"spool/spool"
)

// slowSum is the rule as the document has it, bit by bit.
func slowSum(b []byte) uint32 {
	sum := uint32(1<<32 - 1)
	for _, c := range b {
		for i := range 8 {
			differ := sum&1 != uint32(c)>>i&1
			sum /= 2
			if differ {
				sum ^= 0xEDB88320
			}
		}
	}
	return ^sum
}

func TestP2Sum(t *testing.T) {
	for s, want := range map[string]uint32{
		"":                 0,
		"\x00\x00\x00\x00": 558161692,
		"123456789":        0xCBF43926,
		"\x00":             0xD202EF8D,
		"\xff\xff\xff\xff": 0xFFFFFFFF,
	} {
		if n := spool.Sum([]byte(s)); n != want {
			t.Errorf("Sum(%q) = %x, want %x", s, n, want)
		}
	}
	if n := spool.Sum(nil); n != 0 {
		t.Errorf("Sum(nil) = %x", n)
	}
}

func TestP2EveryByte(t *testing.T) {
	for c := range 256 {
		for _, b := range [][]byte{{byte(c)}, {byte(c), 1}, {200, byte(c)}, {1, 2, 3, byte(c), 5}} {
			n := spool.Sum(b)
			if n != slowSum(b) || n != crc32.ChecksumIEEE(b) {
				t.Fatalf("Sum(%v) = %x, want %x", b, n, slowSum(b))
			}
		}
	}
}

func TestP2Long(t *testing.T) {
	b := make([]byte, 70000)
	for i := range b {
		b[i] = byte(i * i >> 5)
	}
	for _, size := range []int{255, 256, 257, 65535, 65536, 70000} {
		if n := spool.Sum(b[:size]); n != crc32.ChecksumIEEE(b[:size]) {
			t.Errorf("Sum of %d bytes = %x", size, n)
		}
	}
}
