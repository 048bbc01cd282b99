package spool_test

import (
	"bytes"
	"math"
	"math/rand"
	"slices"
	"strings"
	"sync"
	"testing"

	"spool/api"
	"spool/spool"
)

// samples: a stream of each kind, streams of several blocks, and what comes out of them.
func samples() map[string][]byte {
	return map[string][]byte{
		"\x07\x08":               {1, 2, 0, 253, 255, 7, 8},
		"a":                      {75, 4, 0},
		"HHHH":                   stream("1:1 2:1 01111000 0000001 00000 0000000"),
		"abba":                   stream(dynamicStart + abRow + "10 11 11 10 0"),
		"HIabbaHI":               stream("1:0 2:1 01111000 01111001 0000000 " + strings.Replace(dynamicStart, "1:1", "1:0", 1) + abRow + "10 11 11 10 0 1:1 2:1 01111000 01111001 0000000"),
		strings.Repeat("H", 259): stream("1:1 2:1 01111000 11000101 00000 0000000"),
	}
}

func TestP1EndsWithoutPanic(t *testing.T) {
	limits := []int{math.MinInt, -1, 0, 1, 500, 60000, 60001, math.MaxInt}
	random := rand.New(rand.NewSource(1))
	for range 3000 {
		b := make([]byte, random.Intn(120))
		random.Read(b)
		spool.Sum(b)
		for _, limit := range limits {
			for kind := range 4 {
				if len(b) > 0 {
					b[0] = b[0]&^7 | byte(kind<<1)
				}
				out, n, e := spool.Inflate(b, limit)
				if e != api.OK && (out != nil || n != 0) {
					t.Fatalf("Inflate(%v, %d) = %v, %d beside the error %d", b, limit, out, n, e)
				}
				if e == api.OK && (n < 1 || n > len(b) || len(out) > limit) {
					t.Fatalf("Inflate(%v, %d) = %d bytes, %d", b, limit, len(out), n)
				}
			}
		}
	}
}

func TestP1ManyBlocksEnd(t *testing.T) {
	empty := stream(strings.Repeat("1:0 2:1 0000000 ", 4)) // four blocks in five bytes
	inflates(t, append(bytes.Repeat(empty, 100000), 3, 0), 0, "", 500002)
	refuses(t, bytes.Repeat(empty, 100000), 0, api.ErrShort)
	refuses(t, bytes.Repeat([]byte{0, 0, 0, 255, 255}, 100000), 0, api.ErrShort)
}

// guarded gives a copy of b with bytes ahead of it and behind it, and with room to write into.
func guarded(b []byte) (whole, part []byte) {
	whole = slices.Concat([]byte("ahead"), b, []byte("behind"))
	return whole, whole[5 : 5+len(b)]
}

func TestP1NothingHandedInIsWritten(t *testing.T) {
	for want, b := range samples() {
		for _, limit := range []int{-1, 0, 1, len(want), 60000} {
			for cut := range len(b) + 1 {
				whole, part := guarded(b[:cut])
				before := bytes.Clone(whole)
				spool.Inflate(part, limit)
				spool.Sum(part)
				if !bytes.Equal(whole, before) {
					t.Fatalf("Inflate or Sum wrote into %v: %v", before, whole)
				}
			}
		}
	}
}

func TestP1NothingHandedInIsKept(t *testing.T) {
	for want, b := range samples() {
		whole, part := guarded(b)
		out, _, _ := spool.Inflate(part, 60000)
		clear(whole)
		if string(out) != want {
			t.Errorf("what came out hangs on what was handed in: %q, want %q", out, want)
		}
		clear(out[:cap(out)])
		if !bytes.Equal(whole, make([]byte, len(whole))) {
			t.Errorf("what came out lies in what was handed in")
		}
	}
}

func TestP1AnswersAreNewMemory(t *testing.T) {
	for want, b := range samples() {
		first, _, _ := spool.Inflate(b, 60000)
		second, _, _ := spool.Inflate(b, 60000)
		room := first[:cap(first)]
		for i := range room {
			room[i] = 'x'
		}
		third, _, _ := spool.Inflate(b, 60000)
		if string(second) != want || string(third) != want {
			t.Errorf("after writing into an answer: %q, %q, want %q", second, third, want)
		}
	}
}

func TestP1AnswersHangOnArgumentsAlone(t *testing.T) {
	var group sync.WaitGroup
	for range 8 {
		group.Go(func() {
			for range 50 {
				for want, b := range samples() {
					spool.Inflate([]byte{7}, 9)
					inflates(t, b, len(want), want, len(b))
					refuses(t, b[:len(b)-1], len(want), api.ErrShort)
					if n := spool.Sum([]byte("123456789")); n != 0xCBF43926 {
						t.Errorf("Sum = %x", n)
					}
				}
			}
		})
	}
	group.Wait()
}

func TestP1DeflateEndsWithoutPanic(t *testing.T) {
	random := rand.New(rand.NewSource(11))
	for range 300 {
		b := anyBytes(random, random.Intn(300))
		for _, level := range []int{math.MinInt, -1, 0, 1, 5, 9, 10, math.MaxInt} {
			s, e := spool.Deflate(b, level)
			if wrong := level < 0 || level > 9; wrong && (s != nil || e != api.ErrArg) || !wrong && (len(s) == 0 || e != api.OK) {
				t.Fatalf("Deflate(%v, %d) = %v, %d", b, level, s, e)
			}
		}
	}
}

func TestP1DeflateLeavesWhatIsHandedIn(t *testing.T) {
	for _, text := range texts() {
		for level := -1; level <= 10; level++ {
			whole, part := guarded([]byte(text))
			before := bytes.Clone(whole)
			s, _ := spool.Deflate(part, level)
			if !bytes.Equal(whole, before) {
				t.Fatalf("Deflate wrote into %s: %s", short(before), short(whole))
			}
			kept := bytes.Clone(s)
			clear(whole)
			if !bytes.Equal(s, kept) {
				t.Fatalf("level %d: the stream hangs on what was handed in", level)
			}
			for i := range s[:cap(s)] {
				s[:cap(s)][i] = 'x'
			}
			if !bytes.Equal(whole, make([]byte, len(whole))) {
				t.Fatalf("level %d: the stream lies in what was handed in", level)
			}
		}
	}
}

func TestP1StreamsAreNewMemory(t *testing.T) {
	for _, text := range texts() {
		for level := range 10 {
			first, _ := spool.Deflate([]byte(text), level)
			want := bytes.Clone(first)
			second, _ := spool.Deflate([]byte(text), level)
			room := first[:cap(first)]
			for i := range room {
				room[i] = 'x'
			}
			third, _ := spool.Deflate([]byte(text), level)
			if !bytes.Equal(second, want) || !bytes.Equal(third, want) {
				t.Fatalf("level %d: after writing into an answer: %s, %s, want %s", level, short(second), short(third), short(want))
			}
		}
	}
}
