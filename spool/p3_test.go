package spool_test

import (
	"fmt"
	"math"
	"slices"
	"strings"
	"testing"

	"spool/api"
)

func TestP3Limit(t *testing.T) {
	for _, limit := range []int{-1, 60001, math.MinInt, math.MaxInt} {
		refuses(t, []byte{3, 0}, limit, api.ErrArg)
		refuses(t, []byte{7}, limit, api.ErrArg)
		refuses(t, nil, limit, api.ErrArg)
	}
	inflates(t, []byte{3, 0}, 0, "", 2)
	inflates(t, []byte{3, 0}, 60000, "", 2)
	// a byte, 232 times 258 and once 143
	most := "1:1 2:1 00110000 " + strings.Repeat("11000101 00000 ", 232) + "11000001 5:12 00000 "
	gives(t, most+"0000000", strings.Repeat("\x00", 60000))
	refuses(t, stream(most+"0000000"), 59999, api.ErrLimit)
	refuses(t, stream(most+"00110000 0000000"), 60000, api.ErrLimit)
}

func TestP3LimitIsMetAtTheByte(t *testing.T) {
	met(t, "1:1 2:1 01111000", 0, api.ErrLimit)
	met(t, "1:1 2:1 01111000 01111001", 1, api.ErrLimit)
	met(t, "1:1 2:1 01111000 0000001 00000", 3, api.ErrLimit) // amid a length
	met(t, "1:1 2:1 01111000 0000001 00000", 1, api.ErrLimit)
	met(t, "1:1 2:1 01111000 11000100 5:31 00000", 258, api.ErrLimit)
	met(t, dynamicStart+abRow+"10 11 11", 2, api.ErrLimit)
	met(t, "1:0 2:1 01111000 0000000 1:1 2:1 01111000", 1, api.ErrLimit) // all blocks count
	// with no room left, what brings no byte goes on
	met(t, "1:1 2:1 01111000 11000110", 1, api.ErrData)
	met(t, "1:1 2:1 01111000 0000001 01000 3:7", 1, api.ErrData)
	met(t, "1:1 2:3", 0, api.ErrData)
	inflates(t, stream("1:0 2:1 01111000 0000000 1:1 2:1 0000000"), 1, "H", 4)
	inflates(t, []byte{1, 0, 0, 255, 255}, 0, "", 5)
}

func TestP3Stored(t *testing.T) {
	whole := []byte{1, 2, 0, 253, 255, 7, 8}
	inflates(t, whole, 2, "\x07\x08", 7)
	for cut := range whole {
		refuses(t, whole[:cut], 9, api.ErrShort)
	}
	for bit := range 16 { // each bit must be turned
		b := slices.Clone(whole)
		b[3+bit/8] ^= 1 << (bit % 8)
		refuses(t, b, 9, api.ErrData)
		refuses(t, b[:5], 0, api.ErrData)
		refuses(t, b[:4], 9, api.ErrShort)
	}
	inflates(t, []byte{0xF9, 0, 0, 255, 255}, 0, "", 5) // bits that are passed over
	long := append([]byte{1, 0, 2, 255, 253}, strings.Repeat("z", 512)...)
	inflates(t, long, 512, strings.Repeat("z", 512), 517) // the lowest byte of the length comes first
	inflates(t, []byte{0, 1, 0, 254, 255, 'a', 0, 0, 0, 255, 255, 1, 1, 0, 254, 255, 'b'}, 9, "ab", 17)
}

func TestP3StoredAtEachBit(t *testing.T) {
	for last := range 8 {
		for _, passed := range []string{"", "1111111"} {
			b, n := shifted("1:1 2:0 ", last)
			if passed != "" {
				b[len(b)-1] |= ^byte(0) << (last + 1)
			}
			want := strings.Repeat("\x90", n) + "q"
			inflates(t, append(b, 1, 0, 254, 255, 'q'), 99, want, len(b)+5)
		}
	}
}

func TestP3StoredByteIsReadAheadOfTheLimit(t *testing.T) {
	whole := []byte{1, 2, 0, 253, 255, 7, 8}
	refuses(t, whole, 1, api.ErrLimit)
	refuses(t, whole[:6], 1, api.ErrShort)
	refuses(t, whole, 0, api.ErrLimit)
	refuses(t, whole[:6], 0, api.ErrLimit)
	refuses(t, whole[:5], 0, api.ErrShort)
}

func TestP3Kind(t *testing.T) {
	refuses(t, []byte{7}, 9, api.ErrData)
	refuses(t, []byte{6}, 9, api.ErrData)
	met(t, "1:1 2:3", 9, api.ErrData)
	met(t, "1:0 2:3", 9, api.ErrData)
	refuses(t, nil, 9, api.ErrShort)
	refuses(t, []byte{}, 9, api.ErrShort)
	refuses(t, []byte{0, 0, 0, 255, 255}, 9, api.ErrShort) // a block that is not the last, and none behind
}

func TestP3FixedCodes(t *testing.T) {
	gives(t, "1:1 2:1 00110000 10111111 110010000 111111111 0000000", "\x00\x8f\x90\xff")
	met(t, "1:1 2:1 11000110", 9, api.ErrData) // 286
	met(t, "1:1 2:1 11000111", 9, api.ErrData)
	met(t, "1:1 2:1 01111000 0000001 11110", 9, api.ErrData) // 30
	met(t, "1:1 2:1 01111000 0000001 11111", 9, api.ErrData)
}

func TestP3FixedLiterals(t *testing.T) {
	words, want := "1:1 2:1 ", ""
	for c := range 256 {
		if c < 144 {
			words += fmt.Sprintf("%08b ", 0b00110000+c)
		} else {
			words += fmt.Sprintf("%09b ", 0b110010000+c-144)
		}
		want += string([]byte{byte(c)})
	}
	gives(t, words+"0000000", want)
}

func TestP3Lengths(t *testing.T) {
	for _, c := range []struct {
		words  string
		length int
	}{
		{"0000001", 3}, {"0000010", 4}, {"0001000", 10}, {"0001001 1:0", 11}, {"0001001 1:1", 12}, {"0001010 1:0", 13}, {"0001100 1:1", 18},
		{"0001101 2:0", 19}, {"0001101 2:1", 20}, {"0001101 2:3", 22}, {"0010000 2:3", 34}, {"0010001 3:0", 35}, {"0010100 3:7", 66},
		{"0010101 4:0", 67}, {"0010111 4:15", 114}, {"11000000 4:0", 115}, {"11000000 4:15", 130},
		{"11000001 5:0", 131}, {"11000100 5:0", 227}, {"11000100 5:30", 257}, {"11000100 5:31", 258}, {"11000101", 258},
	} {
		gives(t, "1:1 2:1 01111000 "+c.words+" 00000 0000000", strings.Repeat("H", 1+c.length))
	}
}

func TestP3Distances(t *testing.T) {
	ahead := make([]byte, 33000)
	for i := range ahead {
		ahead[i] = byte(i*i>>7 + i)
	}
	size := len(ahead)
	start := append([]byte{0, byte(size), byte(size >> 8), ^byte(size), ^byte(size >> 8)}, ahead...)
	for _, c := range []struct {
		words    string
		distance int
	}{
		{"00000", 1}, {"00001", 2}, {"00011", 4}, {"00100 1:0", 5}, {"00100 1:1", 6}, {"00101 1:0", 7}, {"00110 2:0", 9}, {"00110 2:1", 10},
		{"00110 2:3", 12}, {"00111 2:3", 16}, {"01000 3:0", 17}, {"01111 6:63", 256}, {"10000 7:0", 257}, {"11011 12:4095", 16384},
		{"11100 13:0", 16385}, {"11101 13:0", 24577}, {"11101 13:8191", 32768},
	} {
		out := slices.Clone(ahead)
		for range 3 {
			out = append(out, out[len(out)-c.distance])
		}
		b := slices.Concat(start, stream("1:1 2:1 0000001 "+c.words+" 0000000"))
		inflates(t, b, 60000, string(out), len(b))
	}
}

func TestP3DistanceLessThanLength(t *testing.T) {
	gives(t, "1:1 2:1 01111000 01111001 0000010 00001 0000000", "HIHIHI")
	gives(t, "1:1 2:1 01111000 01111001 01111010 0001000 00010 0000000", "HIJHIJHIJHIJH")
}

func TestP3DistanceTooGreat(t *testing.T) {
	refuses(t, stream("1:1 2:1 0000001 00000"), 9, api.ErrData)
	refuses(t, stream("1:1 2:1 01111000 0000001 00001"), 9, api.ErrData)
	refuses(t, stream("1:1 2:1 01111000 01111001 0000001 00010"), 9, api.ErrData)
	met(t, "1:1 2:1 01111000 0000001 01000 3:0", 9, api.ErrData) // when its bits more are read
	met(t, "1:1 2:1 01111000 0000001 11101 13:8191", 9, api.ErrData)
	// what came out of blocks ahead counts
	gives(t, "1:0 2:1 01111000 01111001 0000000 1:1 2:1 0000001 00001 0000000", "HIHIH")
	refuses(t, stream("1:0 2:1 01111000 01111001 0000000 1:1 2:1 0000001 00010 0000000"), 9, api.ErrData)
	inflates(t, append([]byte{0, 2, 0, 253, 255, 7, 8}, stream("1:1 2:1 0000001 00001 0000000")...), 9, "\x07\x08\x07\x08\x07", 10)
}
