package spool_test

import (
	"bytes"
	"math"
	"math/rand"
	"runtime"
	"slices"
	"sync"
	"testing"
	"time"

	"spool/api"
	"spool/spool"
)

func TestP1ArchivesEndWithoutPanic(t *testing.T) {
	random := rand.New(rand.NewSource(15))
	numbers := []int{math.MinInt, -1, 0, 1, 2, 8, 9, 10, 16, 17, 5000, 5001, math.MaxInt}
	pick := func() int { return numbers[random.Intn(len(numbers))] }
	for range 3000 {
		b := make([]byte, random.Intn(200))
		random.Read(b)
		copy(b, archiveOf(stored("ab"))[:random.Intn(62)])
		out, n, e := spool.Unpack(b)
		if n < 0 || n > len(b) || e != api.OK && out != nil {
			t.Fatalf("Unpack(%v) = %v, %d, %d", b, out, n, e)
		}
		list, n, e := spool.Index(b)
		if n < 0 || n > len(b) || e != api.OK && list != nil {
			t.Fatalf("Index(%v) = %v, %d, %d", b, list, n, e)
		}
		if a, e := spool.Pack(b, pick(), pick()); (e == api.OK) != (a != nil) || e != api.OK && e != api.ErrArg {
			t.Fatalf("Pack(%v) = %v, %d", b, a, e)
		}
		r, n, e := spool.Open(b, pick())
		if (r == nil) != (e != api.OK) || n < 0 {
			t.Fatalf("Open(%v) = %v, %d, %d", b, r, n, e)
		}
		good, _, _ := spool.Open(archiveOf(says(stored("ab"), 1+random.Intn(3)), badSum(stored("c"))), 1)
		for range 5 {
			if out, e := good.ReadAt(pick(), pick()); e != api.OK && out != nil {
				t.Fatalf("ReadAt = %v, %d", out, e)
			}
		}
	}
}

// archives: right ones and wrong ones.
func archives() [][]byte {
	a := archiveOf(stored("abc"), stored("defg"), memberOf([]byte{75, 4, 0}, "a"))
	return [][]byte{nil, theEnd, a, a[:40], a[:34], append(slices.Clone(a), 1), archiveOf(badSum(stored("abc"))), archiveOf(says(stored("abc"), 4001)), archiveOf(stored(""))}
}

func TestP1ArchivesAreLeftAsTheyAre(t *testing.T) {
	for _, b := range archives() {
		whole, part := guarded(b)
		before := bytes.Clone(whole)
		spool.Unpack(part)
		spool.Index(part)
		if r, n, _ := spool.Open(part, 2); r != nil {
			for from := range n {
				r.ReadAt(from, 3)
			}
		}
		if !bytes.Equal(whole, before) {
			t.Fatalf("%v was written into: %v", before, whole)
		}
	}
}

func TestP1PackLeavesWhatIsHandedIn(t *testing.T) {
	for _, n := range []int{0, 1, 999, 1000, 1001, 5500, 30000, 30001} {
		text := anyBytes(rand.New(rand.NewSource(16)), n)
		for _, level := range []int{-1, 0, 1, 9, 10} {
			whole, part := guarded(text)
			before := bytes.Clone(whole)
			a, _ := spool.Pack(part, level, 5)
			if !bytes.Equal(whole, before) {
				t.Fatalf("Pack wrote into %s: %s", short(before), short(whole))
			}
			kept := bytes.Clone(a)
			clear(whole)
			if !bytes.Equal(a, kept) {
				t.Fatalf("level %d: the archive hangs on what was handed in", level)
			}
			fill(a)
			if !bytes.Equal(whole, make([]byte, len(whole))) {
				t.Fatalf("level %d: the archive lies in what was handed in", level)
			}
		}
	}
}

// TestP1PacksAreNewMemory: what every archive ends with is not the caller's to change for the next one.
func TestP1PacksAreNewMemory(t *testing.T) {
	for _, n := range []int{0, 1, 1000, 2500} {
		b := anyBytes(rand.New(rand.NewSource(17)), n)
		first, _ := spool.Pack(b, 3, 4)
		want := bytes.Clone(first)
		second, _ := spool.Pack(b, 3, 4)
		fill(first)
		third, _ := spool.Pack(b, 3, 4)
		if !bytes.Equal(second, want) || !bytes.Equal(third, want) {
			t.Fatalf("%d bytes: after writing into an answer: %s, %s, want %s", n, short(second), short(third), short(want))
		}
		out, _, _ := spool.Unpack(want)
		fill(out)
		unpacks(t, want, string(b))
	}
	fillEntries := func(list []api.Entry) {
		for i := range list[:cap(list)] {
			list[:cap(list)][i] = api.Entry{At: -1, From: -1, Size: -1}
		}
	}
	a := archiveOf(stored("abc"), stored("defg"))
	list, _ := index(t, a)
	r := opens(t, a, 1, 7)
	fillEntries(list)
	indexes(t, a, api.Entry{At: 0, From: 0, Size: 3}, api.Entry{At: 34, From: 3, Size: 4})
	readsAt(t, r, 2, 2, "cd", 2)
}

// TestP1ReaderKeepsNothingHandedIn: the archive may be written into behind Open, and between any two reads.
func TestP1ReaderKeepsNothingHandedIn(t *testing.T) {
	whole, part := guarded(archiveOf(stored("abc"), stored("defg"), stored("hi")))
	r := opens(t, part, 1, 9)
	clear(whole)
	readsAt(t, r, 0, 9, "abcdefghi", 3)
	fill(part)
	readsAt(t, r, 0, 4, "abcd", 5)
	if !bytes.Equal(part, bytes.Repeat([]byte("x"), len(part))) {
		t.Errorf("a reader wrote into what was handed in: %v", part)
	}
}

// TestP1PartsAreNewMemory: what a reader keeps is not in them.
func TestP1PartsAreNewMemory(t *testing.T) {
	for cache := 1; cache <= 8; cache++ {
		r := opens(t, archiveOf(stored("abc"), stored("defg")), cache, 7)
		for range 3 {
			for from := range 8 {
				for n := range 8 {
					out, e := r.ReadAt(from, n)
					if want := "abcdefg"[min(from, 7):min(from+n, 7)]; string(out) != want || e != api.OK {
						t.Fatalf("ReadAt(%d, %d) = %q, %d, want %q", from, n, out, e, want)
					}
					fill(out)
				}
			}
		}
	}
}

// TestP1ReadersHaveNothingToDoWithOneAnother: neither what they read nor what they load.
func TestP1ReadersHaveNothingToDoWithOneAnother(t *testing.T) {
	a := archiveOf(stored("abc"), stored("defg"))
	first, second := opens(t, a, 2, 7), opens(t, a, 2, 7)
	other := opens(t, archiveOf(stored("xyz"), badSum(stored("uvwt"))), 2, 7)
	readsAt(t, first, 0, 3, "abc", 1)
	readsAt(t, other, 0, 3, "xyz", 1)
	readRefuses(t, other, 0, 7, api.ErrSum, 2)
	loaded(t, second, 0)
	readsAt(t, first, 0, 7, "abcdefg", 2)
	readsAt(t, second, 0, 7, "abcdefg", 2)
	loaded(t, other, 2)
	var group sync.WaitGroup
	for range 8 {
		group.Go(func() {
			r, _, _ := spool.Open(a, 1)
			for i := range 50 {
				readsAt(t, r, 2, 2, "cd", 2*(i+1))
			}
		})
	}
	group.Wait()
}

// TestP1PackLeavesNoWorkers: all have ended when it answers.
func TestP1PackLeavesNoWorkers(t *testing.T) {
	before := runtime.NumGoroutine()
	for _, n := range []int{0, 1, 5000, 30000} {
		for range 5 {
			spool.Pack(make([]byte, n), 6, 16)
		}
	}
	// a worker that has said it is done may need a moment to be gone
	for range 100 {
		if runtime.NumGoroutine() <= before {
			return
		}
		time.Sleep(time.Millisecond)
	}
	t.Errorf("%d goroutines, %d before", runtime.NumGoroutine(), before)
}
