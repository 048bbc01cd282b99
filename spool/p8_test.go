package spool_test

import (
	"bytes"
	"slices"
	"strings"
	"testing"

	"spool/api"
)

func TestP8Examples(t *testing.T) {
	unwrapRefuses(t, []byte{31, 139, 9}, api.ErrData, 2)
	unwrapRefuses(t, []byte{31, 139}, api.ErrShort, 2)
}

func TestP8Members(t *testing.T) {
	for text, s := range samples() {
		unwraps(t, memberOf(s, text), text, len(s)+26)
	}
	for _, text := range texts() {
		for _, s := range squeezed(text) {
			unwraps(t, memberOf(s, text), text, len(s)+26)
		}
	}
}

func TestP8NoBytes(t *testing.T) {
	unwraps(t, []byte{31, 139, 8, 4, 0, 0, 0, 0, 0, 255, 6, 0, 66, 67, 2, 0, 27, 0, 3, 0, 0, 0, 0, 0, 0, 0, 0, 0}, "", 28)
	unwraps(t, memberOf([]byte{1, 0, 0, 255, 255}, ""), "", 31)
	// bits behind the stream's end, in its last byte, are nobody's
	unwraps(t, memberOf([]byte{3, 252}, ""), "", 28)
}

func TestP8BytesBehindDoNotCount(t *testing.T) {
	for _, behind := range []string{"", "\x00", "\xff", "behind", string(sevenEight()), strings.Repeat("\x1f", 70000)} {
		unwraps(t, append(sevenEight(), behind...), "\x07\x08", 33)
	}
}

func TestP8CutAnywhere(t *testing.T) {
	for text, s := range samples() {
		b := memberOf(s, text)
		for cut := range len(b) {
			unwrapRefuses(t, b[:cut], api.ErrShort, cut)
			unwrapRefuses(t, slices.Clip(bytes.Clone(b[:cut])), api.ErrShort, cut)
		}
	}
	unwrapRefuses(t, nil, api.ErrShort, 0)
}

func TestP8AnotherOfTheSixteen(t *testing.T) {
	for at := range 16 {
		for turn := 1; turn < 256; turn++ {
			b := with(sevenEight(), at, sixteen[at]^byte(turn))
			unwrapRefuses(t, b, api.ErrData, at)
			unwrapRefuses(t, b[:at+1], api.ErrData, at)
			unwrapRefuses(t, b[:at], api.ErrShort, at)
		}
	}
}

// TestP8FirstOfTheSixteen: the first one that is another counts, whatever stands behind it.
func TestP8FirstOfTheSixteen(t *testing.T) {
	for first := range 16 {
		b := sevenEight()
		for at := first; at < len(b); at++ {
			b[at] ^= 255
		}
		for size := first + 1; size <= len(b); size++ {
			unwrapRefuses(t, b[:size], api.ErrData, first)
		}
	}
}

// TestP8TooSmallANumber takes every number that says fewer than 28 bytes; it is told as soon as it is whole.
func TestP8TooSmallANumber(t *testing.T) {
	for number := range 27 {
		b := with(sevenEight(), 16, byte(number))
		for size := 18; size <= len(b); size++ {
			unwrapRefuses(t, b[:size], api.ErrData, 16)
		}
		unwrapRefuses(t, b[:17], api.ErrShort, 17)
		unwrapRefuses(t, b[:16], api.ErrShort, 16)
	}
	unwrapRefuses(t, member([]byte{3}, 0, 0), api.ErrData, 16)
	unwrapRefuses(t, member(nil, 0, 0), api.ErrData, 16)
}

// TestP8TooGreatANumber: more bytes than there are is told ahead of all that is wrong with the stream.
func TestP8TooGreatANumber(t *testing.T) {
	for _, x := range []struct{ low, high byte }{{33, 0}, {34, 0}, {255, 0}, {32, 1}, {0, 1}, {31, 255}, {255, 255}} {
		b := with(with(sevenEight(), 16, x.low), 17, x.high)
		unwrapRefuses(t, b, api.ErrShort, 33)
		unwrapRefuses(t, with(b, 18, 7), api.ErrShort, 33)
		unwrapRefuses(t, with(b, 25, b[25]^1), api.ErrShort, 33)
		unwrapRefuses(t, b[:18], api.ErrShort, 18)
	}
	for number := 27; number < 65536; number += 31 {
		b := slices.Concat(sixteen, []byte{byte(number % 256), byte(number / 256)})
		unwrapRefuses(t, b, api.ErrShort, 18)
		unwrapRefuses(t, append(b, make([]byte, number-18)...), api.ErrShort, number)
	}
}

// TestP8GreatestNumber: a member of 65536 bytes, most of it blocks of no bytes.
func TestP8GreatestNumber(t *testing.T) {
	s := append(bytes.Repeat([]byte{0, 0, 0, 255, 255}, 13101), 1, 0, 0, 255, 255)
	unwraps(t, memberOf(s, ""), "", 65536)
	unwraps(t, append(memberOf(s, ""), 9), "", 65536)
	unwrapRefuses(t, memberOf(s, "")[:65535], api.ErrShort, 65535)
	unwrapRefuses(t, member(s, 1, 0), api.ErrSum, 65528)
	unwrapRefuses(t, member(s, 0, 1), api.ErrSum, 65532)
	s[65505] = 0
	unwrapRefuses(t, memberOf(s, ""), api.ErrShort, 18)
}

// TestP8ErrorOfTheStream: it is told at 18, wherever in the stream it is met, and ahead of the sum's.
func TestP8ErrorOfTheStream(t *testing.T) {
	for _, sum := range []int{0, sumOf("\x07\x08")} {
		for _, s := range [][]byte{{7, 0}, {7, 0, 0}, {1, 2, 0, 253, 254, 7, 8}, {0, 2, 0, 253, 255, 7, 8, 7}, stream("1:1 2:1 0000001 00000 0000000")} {
			unwrapRefuses(t, member(s, sum, 2), api.ErrData, 18)
		}
		for _, s := range [][]byte{{1, 2}, {1, 2, 0, 253, 255, 7}, {0, 2, 0, 253, 255, 7, 8}, {75, 4}, {2, 0}} {
			unwrapRefuses(t, member(s, sum, 2), api.ErrShort, 18)
		}
	}
}

// TestP8StreamEndsAheadOfTheSum: the sum's bytes are not the stream's, even if they would complete it.
func TestP8StreamEndsAheadOfTheSum(t *testing.T) {
	unwrapRefuses(t, member([]byte{1, 4, 0, 251, 255, 7}, 0, 0), api.ErrShort, 18)
	unwrapRefuses(t, append(member([]byte{75, 4}, 0, 1), 0, 0, 0), api.ErrShort, 18)
	b := with(sevenEight(), 16, 31) // one byte fewer
	unwrapRefuses(t, b, api.ErrShort, 18)
	unwrapRefuses(t, b[:32], api.ErrShort, 18)
}

// TestP8StreamHasNotAll: it is told where the stream ends, ahead of the sum's errors.
func TestP8StreamHasNotAll(t *testing.T) {
	for text, s := range samples() {
		for _, behind := range []string{"\x00", "\xff", "behind", "\x03\x00", strings.Repeat("x", 60000)} {
			more := slices.Concat(s, []byte(behind))
			unwrapRefuses(t, memberOf(more, text), api.ErrData, 18+len(s))
			unwrapRefuses(t, member(more, sumOf(text)^1, len(text)), api.ErrData, 18+len(s))
			unwrapRefuses(t, member(more, sumOf(text), len(text)+1), api.ErrData, 18+len(s))
		}
	}
	unwrapRefuses(t, memberOf([]byte{3, 0, 0}, ""), api.ErrData, 20)
	unwrapRefuses(t, append(with(sevenEight(), 16, 33), 9), api.ErrData, 25)
}

func TestP8AnotherSumOrCount(t *testing.T) {
	for text, s := range samples() {
		b := memberOf(s, text)
		sumAt, countAt := len(b)-8, len(b)-4
		for turn := 1; turn < 256; turn++ {
			for i := range 4 {
				sum := with(b, sumAt+i, b[sumAt+i]^byte(turn))
				count := with(b, countAt+i, b[countAt+i]^byte(turn))
				unwrapRefuses(t, sum, api.ErrSum, sumAt)
				unwrapRefuses(t, count, api.ErrSum, countAt)
				unwrapRefuses(t, with(count, sumAt+i, sum[sumAt+i]), api.ErrSum, sumAt)
				unwrapRefuses(t, append(sum, b...), api.ErrSum, sumAt)
				unwrapRefuses(t, append(count, b...), api.ErrSum, countAt)
			}
		}
	}
}

// storedBlocks: a stream of the text in two blocks, so that it has more than one way to be too long.
func storedBlocks(text string) []byte {
	cut := len(text) / 2
	var s []byte
	for i, part := range []string{text[:cut], text[cut:]} {
		n := len(part)
		s = append(s, byte(i), byte(n%256), byte(n/256), byte(255-n%256), byte(255-n/256))
		s = append(s, part...)
	}
	return s
}

func TestP8MostBytes(t *testing.T) {
	for _, n := range []int{3999, 4000, 4001, 4002, 8000, 60000, 60001} {
		text := strings.Repeat("spool ", 10001)[:n]
		for _, s := range append(squeezed(text), storedBlocks(text)) {
			b := memberOf(s, text)
			if len(b) > 65536 {
				continue
			}
			if n <= 4000 {
				unwraps(t, b, text, len(b))
				continue
			}
			unwrapRefuses(t, b, api.ErrLimit, 18)
			unwrapRefuses(t, member(s, 0, 4000), api.ErrLimit, 18)
			unwrapRefuses(t, memberOf(append(s, 0), text), api.ErrLimit, 18)
			unwrapRefuses(t, b[:len(b)-1], api.ErrShort, len(b)-1)
		}
	}
}
