package spool_test

import (
	"strconv"
	"strings"
	"testing"

	"spool/api"
	"spool/spool"
)

// bitsOf gives the bits of words: a word n:v is the number v of n bits (its lowest first),
// a word of digits alone is the bits of a code, from the first on.
func bitsOf(words string) string {
	bits := ""
	for _, word := range strings.Fields(words) {
		size, value, isNumber := strings.Cut(word, ":")
		if !isNumber {
			bits += word
			continue
		}
		n, _ := strconv.Atoi(size)
		v, _ := strconv.Atoi(value)
		for ; n > 0; n-- {
			bits += strconv.Itoa(v & 1)
			v >>= 1
		}
	}
	return bits
}

// stream lays the bits of words into bytes.
func stream(words string) []byte {
	var out []byte
	for i, bit := range bitsOf(words) {
		if i%8 == 0 {
			out = append(out, 0)
		}
		out[i/8] |= byte(bit-'0') << (i % 8)
	}
	return out
}

// shifted puts a block of some bytes ahead of words, so that their last bit is bit `last` (0 to 7) of the last byte;
// and tells how many bytes that block has.
func shifted(words string, last int) ([]byte, int) {
	for n := 0; ; n++ {
		all := "1:0 2:1 " + strings.Repeat("110010000 ", n) + "0000000 " + words
		if (len(bitsOf(all))-1)%8 == last {
			return stream(all), n
		}
	}
}

// met asks that the error is met at the last bit of words (with room for so many bytes), not sooner and not later:
// with that bit at the very end of the bytes it is told, and without it ErrShort.
func met(t *testing.T, words string, room int, want api.Errno) {
	t.Helper()
	b, n := shifted(words, 7)
	refuses(t, b, n+room, want)
	refuses(t, append(b, 0, 0), n+room, want)
	refuses(t, append(b, 255, 255), n+room, want)
	b, n = shifted(words, 0)
	refuses(t, b[:len(b)-1], n+room, api.ErrShort)
}

// gives asks that words are a whole stream.
func gives(t *testing.T, words string, want string) {
	t.Helper()
	inflates(t, stream(words), len(want), want, (len(bitsOf(words))+7)/8)
}

func inflates(t *testing.T, b []byte, limit int, want string, used int) {
	t.Helper()
	out, n, e := spool.Inflate(b, limit)
	if string(out) != want || n != used || e != api.OK {
		t.Errorf("Inflate(%s, %d) = %.40q (%d bytes), %d, %d, want %.40q (%d bytes), %d, 0", short(b), limit, out, len(out), n, e, want, len(want), used)
	}
}

func refuses(t *testing.T, b []byte, limit int, want api.Errno) {
	t.Helper()
	out, n, e := spool.Inflate(b, limit)
	if out != nil || n != 0 || e != want {
		t.Errorf("Inflate(%s, %d) = %.40q, %d, %d, want nil, 0, %d", short(b), limit, out, n, e, want)
	}
}

func short(b []byte) string {
	text := ""
	for i, c := range b {
		if i == 60 {
			return text + ".."
		}
		text += strconv.Itoa(int(c)) + " "
	}
	return text
}
