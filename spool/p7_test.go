package spool_test

import (
	"bytes"
	"compress/gzip"
	"io"
	"math"
	"math/rand"
	"testing"

	"spool/api"
	"spool/spool"
)

// wraps asks of a member that it is, byte by byte, what P7 says, and gives it.
func wraps(t *testing.T, b []byte, level int) []byte {
	t.Helper()
	got, e := spool.Wrap(b, level)
	stream, _ := spool.Deflate(b, level)
	if want := memberOf(stream, string(b)); !bytes.Equal(got, want) || e != api.OK {
		t.Fatalf("Wrap(%s, %d) = %s (%d bytes), %d, want %s (%d bytes)", short(b), level, short(got), len(got), e, short(want), len(want))
	}
	return got
}

// published asks that the library reads the member as one file, to its last byte.
func published(t *testing.T, got, b []byte) {
	t.Helper()
	r, err := gzip.NewReader(bytes.NewReader(got))
	if err != nil {
		t.Fatalf("the library reads %s: %v", short(got), err)
	}
	if out, err := io.ReadAll(r); err != nil || !bytes.Equal(out, b) {
		t.Fatalf("the library reads %s: %s, %v, want %s", short(got), short(out), err, short(b))
	}
}

func TestP7WrittenOut(t *testing.T) {
	for _, x := range []struct{ b, want []byte }{
		{[]byte{7, 8}, []byte{31, 139, 8, 4, 0, 0, 0, 0, 0, 255, 6, 0, 66, 67, 2, 0, 32, 0, 1, 2, 0, 253, 255, 7, 8, 10, 12, 67, 0, 2, 0, 0, 0}},
		{nil, []byte{31, 139, 8, 4, 0, 0, 0, 0, 0, 255, 6, 0, 66, 67, 2, 0, 30, 0, 1, 0, 0, 255, 255, 0, 0, 0, 0, 0, 0, 0, 0}},
	} {
		if got, e := spool.Wrap(x.b, 0); !bytes.Equal(got, x.want) || e != api.OK {
			t.Errorf("Wrap(%v, 0) = %v, %d, want %v", x.b, got, e, x.want)
		}
	}
}

func TestP7Texts(t *testing.T) {
	for _, text := range texts() {
		for level := range 10 {
			published(t, wraps(t, []byte(text), level), []byte(text))
		}
	}
}

func TestP7Sizes(t *testing.T) {
	random := rand.New(rand.NewSource(70))
	for _, n := range []int{0, 1, 2, 3, 224, 225, 226, 255, 256, 257, 999, 1000, 1001, 3999, 4000} {
		noise := make([]byte, n)
		random.Read(noise)
		for level := range 10 {
			for _, b := range [][]byte{noise, make([]byte, n), bytes.Repeat([]byte{255}, n), bytes.Repeat([]byte("ab"), n)[:n]} {
				published(t, wraps(t, b, level), b)
			}
		}
	}
	for _, b := range [][]byte{nil, {}, make([]byte, 0, 9)} {
		for level := range 10 {
			wraps(t, b, level)
		}
	}
}

func TestP7OneByte(t *testing.T) {
	for c := range 256 {
		for level := range 10 {
			published(t, wraps(t, []byte{byte(c)}, level), []byte{byte(c)})
		}
	}
}

// TestP7BothBytesOfTheSize: stored, a member has 31 bytes more than what comes out; 225 and 226 stand where its number goes on to the second byte.
func TestP7BothBytesOfTheSize(t *testing.T) {
	for _, x := range []struct {
		n         int
		low, high byte
	}{{0, 30, 0}, {1, 31, 0}, {225, 255, 0}, {226, 0, 1}, {227, 1, 1}, {4000, 190, 15}} {
		got, e := spool.Wrap(make([]byte, x.n), 0)
		if e != api.OK || len(got) != x.n+31 || got[16] != x.low || got[17] != x.high {
			t.Errorf("Wrap of %d bytes, level 0: %s, %d, want %d %d at 16", x.n, short(got), e, x.low, x.high)
		}
	}
}

func TestP7AnyBytes(t *testing.T) {
	random := rand.New(rand.NewSource(71))
	for range 400 {
		b := anyBytes(random, random.Intn(1+random.Intn(4001)))
		published(t, wraps(t, b, random.Intn(10)), b)
	}
}

func TestP7WrongArguments(t *testing.T) {
	for _, x := range []struct{ size, level int }{
		{0, -1}, {0, 10}, {1, -1}, {1, 10}, {4000, -1}, {4000, 10}, {1, math.MinInt}, {1, math.MaxInt}, {1, 256}, {1, 1 << 32},
		{4001, 0}, {4001, 1}, {4001, 6}, {4001, 9}, {4001, -1}, {4001, 10}, {30000, 0}, {30000, 9}, {30001, 6}, {65536, 0}, {1 << 20, 9},
	} {
		if got, e := spool.Wrap(make([]byte, x.size), x.level); got != nil || e != api.ErrArg {
			t.Errorf("Wrap of %d bytes, level %d: %d bytes, %d, want nil, 1", x.size, x.level, len(got), e)
		}
	}
}

func TestP13UnwrapOfWrap(t *testing.T) {
	random := rand.New(rand.NewSource(72))
	for range 200 {
		b := anyBytes(random, random.Intn(4001))
		for level := range 10 {
			got, _ := spool.Wrap(b, level)
			unwraps(t, got, string(b), len(got))
			unwraps(t, append(got, 31, 139), string(b), len(got))
			unwrapRefuses(t, got[:len(got)-1], api.ErrShort, len(got)-1)
		}
	}
}
