package spool_test

import (
	"bytes"
	"compress/gzip"
	"io"
	"math"
	"math/rand"
	"slices"
	"sync"
	"testing"

	"spool/api"
	"spool/spool"
)

// packsOf: the archive that P9 says, member by member.
func packsOf(b []byte, level int) []byte {
	var members [][]byte
	for part := range slices.Chunk(b, 1000) {
		m, _ := spool.Wrap(part, level)
		members = append(members, m)
	}
	return archiveOf(members...)
}

func packs(t *testing.T, b []byte, level, workers int, want []byte) {
	t.Helper()
	got, e := spool.Pack(b, level, workers)
	if !bytes.Equal(got, want) || e != api.OK {
		t.Fatalf("Pack(%s, %d, %d) = %s (%d bytes), %d, want %s (%d bytes)", short(b), level, workers, short(got), len(got), e, short(want), len(want))
	}
}

func TestP9WrittenOut(t *testing.T) {
	for workers := 1; workers <= 16; workers++ {
		for level := range 10 {
			packs(t, nil, level, workers, theEnd)
			packs(t, []byte{}, level, workers, theEnd)
		}
		packs(t, []byte{7, 8}, 0, workers, append(sevenEight(), theEnd...))
		text := string(bytes.Repeat([]byte("spool "), 500))
		packs(t, []byte(text[:1001]), 0, workers, archiveOf(stored(text[:1000]), stored(text[1000:1001])))
		packs(t, []byte(text), 0, workers, archiveOf(stored(text[:1000]), stored(text[1000:2000]), stored(text[2000:])))
	}
}

// TestP9Sizes: the edges of the chunks, and of how many chunks there are for the workers.
func TestP9Sizes(t *testing.T) {
	random := rand.New(rand.NewSource(90))
	for _, n := range []int{1, 2, 999, 1000, 1001, 1999, 2000, 2001, 3000, 14999, 15000, 15001, 16000, 16001, 17000, 29000, 29999, 30000} {
		b := anyBytes(random, n)
		for _, level := range []int{0, 1, 6, 9} {
			want := packsOf(b, level)
			for workers := 1; workers <= 16; workers++ {
				packs(t, b, level, workers, want)
			}
		}
	}
}

func TestP9AnyBytes(t *testing.T) {
	random := rand.New(rand.NewSource(91))
	for range 100 {
		b := anyBytes(random, random.Intn(1+random.Intn(30001)))
		level := random.Intn(10)
		packs(t, b, level, 1+random.Intn(16), packsOf(b, level))
	}
}

// TestP9Published: the library reads an archive as one file.
func TestP9Published(t *testing.T) {
	random := rand.New(rand.NewSource(92))
	for _, n := range []int{0, 1, 1000, 2500, 30000} {
		b := anyBytes(random, n)
		for level := range 10 {
			published(t, packed(t, b, level, 4), b)
		}
	}
}

// TestP9EachMemberAlone: the library reads each of them where it stands, whatever stands ahead.
func TestP9EachMemberAlone(t *testing.T) {
	b := anyBytes(rand.New(rand.NewSource(93)), 5500)
	rest := packed(t, b, 6, 3)
	for i := 0; i < len(b); i += 1000 {
		from := bytes.NewReader(rest)
		r, err := gzip.NewReader(from)
		if err != nil {
			t.Fatal(err)
		}
		r.Multistream(false)
		want := b[i:min(i+1000, len(b))]
		if out, err := io.ReadAll(r); err != nil || !bytes.Equal(out, want) {
			t.Fatalf("the library reads the member at byte %d: %s, %v, want %s", i, short(out), err, short(want))
		}
		rest = rest[len(rest)-from.Len():]
	}
	if !bytes.Equal(rest, theEnd) {
		t.Errorf("behind the members: %v", rest)
	}
}

func TestP9WrongArguments(t *testing.T) {
	wrongLevels := []int{math.MinInt, -1, 10, 256, 1 << 32, math.MaxInt}
	wrongWorkers := []int{math.MinInt, -1, 0, 17, 257, 1<<32 + 1, math.MaxInt}
	refused := func(size, level, workers int) {
		if got, e := spool.Pack(make([]byte, size), level, workers); got != nil || e != api.ErrArg {
			t.Errorf("Pack of %d bytes, level %d, workers %d: %d bytes, %d, want nil, 1", size, level, workers, len(got), e)
		}
	}
	for _, size := range []int{0, 1, 1000, 30000, 30001} {
		for _, level := range wrongLevels {
			refused(size, level, 1)
			for _, workers := range wrongWorkers {
				refused(size, level, workers)
			}
		}
		for _, workers := range wrongWorkers {
			refused(size, 0, workers)
			refused(size, 9, workers)
		}
	}
	for _, size := range []int{30001, 31000, 65536, 1 << 20} {
		for level := range 10 {
			refused(size, level, 1)
			refused(size, level, 16)
		}
	}
}

// TestP9AtOnce: packing while others pack.
func TestP9AtOnce(t *testing.T) {
	b := anyBytes(rand.New(rand.NewSource(94)), 7777)
	want := packsOf(b, 5)
	var group sync.WaitGroup
	for i := range 16 {
		group.Go(func() {
			for range 5 {
				if got, e := spool.Pack(b, 5, 1+i); !bytes.Equal(got, want) || e != api.OK {
					t.Errorf("%d workers: another archive, %d", 1+i, e)
				}
			}
		})
	}
	group.Wait()
}
