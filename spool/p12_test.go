package spool_test

import (
	"math"
	"math/rand"
	"slices"
	"strings"
	"testing"

	"spool/api"
)

func TestP12WrongCache(t *testing.T) {
	good := archiveOf(stored("abc"))
	for _, cache := range []int{math.MinInt, -1, 0, 9, 10, 257, 1<<32 + 1, math.MaxInt} {
		for _, b := range [][]byte{good, nil, theEnd, good[:40], append(slices.Clone(good), 1), archiveOf(says(stored("abc"), 4001))} {
			openRefuses(t, b, cache, api.ErrArg, 0)
		}
	}
	for cache := 1; cache <= 8; cache++ {
		opens(t, good, cache, 3)
		openRefuses(t, good[:40], cache, api.ErrShort, 40)
		openRefuses(t, good[:34], cache, api.ErrEnd, 34)
	}
}

// TestP12OpenLooksAtLengthsAlone: what is wrong within a member is told when it is loaded.
func TestP12OpenLooksAtLengthsAlone(t *testing.T) {
	for _, x := range []struct {
		m     []byte
		errno api.Errno
	}{
		{badSum(stored("defg")), api.ErrSum},
		{says(stored("defg"), 5), api.ErrSum},
		{says(stored("defg"), 3), api.ErrSum},
		{says(stored("defg"), 4000), api.ErrSum},
		{with(stored("defg"), 18, 7), api.ErrData},
		{with(stored("defg"), 18, 0), api.ErrShort},
		{memberOf([]byte{75, 4, 0, 0}, "a"), api.ErrData},
		{says(stored(strings.Repeat("x", 4001)), 4000), api.ErrLimit},
	} {
		last := x.m[len(x.m)-4:]
		size := int(last[0]) + int(last[1])*256
		r := opens(t, archiveOf(stored("abc"), x.m, stored("hi")), 3, 5+size)
		readsAt(t, r, 0, 3, "abc", 1)
		readRefuses(t, r, 3, 1, x.errno, 2)
		readRefuses(t, r, 2+size, 1, x.errno, 3)
		readRefuses(t, r, 0, 5, x.errno, 4)
		readsAt(t, r, 3+size, 9, "hi", 5)
		readsAt(t, r, 1, 2, "bc", 5)
	}
}

func TestP12WrongParts(t *testing.T) {
	r := opens(t, archiveOf(stored("abc"), stored("defg")), 2, 7)
	for _, x := range []struct{ from, n int }{
		{-1, 0}, {-1, 1}, {-1, 5000}, {math.MinInt, 1}, {math.MinInt, math.MinInt}, {-7, 7}, {-1, -1}, {-1, 5001},
		{0, -1}, {3, math.MinInt}, {7, -1}, {100, -1}, {math.MaxInt, -1},
		{0, 5001}, {6, 5001}, {7, 5001}, {100, math.MaxInt}, {math.MaxInt, math.MaxInt}, {0, 1 << 32}, {1, math.MaxInt},
	} {
		readRefuses(t, r, x.from, x.n, api.ErrArg, 0)
	}
	readsAt(t, r, 0, 7, "abcdefg", 2)
	readRefuses(t, r, -1, 1, api.ErrArg, 2)
}

// TestP12EveryPart reads all that there are, and past the end.
func TestP12EveryPart(t *testing.T) {
	text := "abcdefghij"
	b := archiveOf(stored("a"), stored("bcd"), stored("ef"), stored("ghij"))
	for cache := 1; cache <= 8; cache++ {
		r := opens(t, b, cache, 10)
		for from := range 13 {
			for n := range 14 {
				want := text[min(from, 10):min(from+n, 10)]
				if out, e := r.ReadAt(from, n); string(out) != want || e != api.OK {
					t.Errorf("ReadAt(%d, %d) = %q, %d, want %q", from, n, out, e, want)
				}
			}
		}
	}
}

// TestP12AsManyAsThereAre: however far away.
func TestP12AsManyAsThereAre(t *testing.T) {
	r := opens(t, archiveOf(stored("abc"), stored("defg")), 1, 7)
	for _, from := range []int{7, 8, 9, 4999, 5000, 60000, 1 << 31, 1 << 32, 1<<32 + 1, math.MaxInt - 5000, math.MaxInt - 1, math.MaxInt} {
		for _, n := range []int{0, 1, 4, 5000} {
			readsAt(t, r, from, n, "", 0)
		}
	}
	readsAt(t, r, 6, 5000, "g", 1)
	readsAt(t, r, 5, 5000, "fg", 1)
	readsAt(t, r, 0, 5000, "abcdefg", 3)
	end := opens(t, theEnd, 8, 0)
	for _, from := range []int{0, 1, math.MaxInt} {
		readsAt(t, end, from, 0, "", 0)
		readsAt(t, end, from, 5000, "", 0)
	}
	readRefuses(t, end, -1, 0, api.ErrArg, 0)
	readRefuses(t, end, 0, 5001, api.ErrArg, 0)
}

// TestP12NoBytesTakeNoMember: a part of no bytes lies in none, wherever it is.
func TestP12NoBytesTakeNoMember(t *testing.T) {
	r := opens(t, archiveOf(stored("abc"), badSum(stored("defg"))), 1, 7)
	for from := range 9 {
		readsAt(t, r, from, 0, "", 0)
	}
	readsAt(t, r, 1, 2, "bc", 1)
	for from := range 9 {
		readsAt(t, r, from, 0, "", 1)
	}
	readsAt(t, r, 0, 1, "a", 1)
}

// TestP12MembersBesideThePart are not taken: neither the one that ends where it begins nor the one that begins where it ends.
func TestP12MembersBesideThePart(t *testing.T) {
	r := opens(t, archiveOf(badSum(stored("abc")), stored("defg"), badSum(stored("hi"))), 1, 9)
	readsAt(t, r, 3, 4, "defg", 1)
	readsAt(t, r, 3, 1, "d", 1)
	readsAt(t, r, 6, 1, "g", 1)
	readRefuses(t, r, 2, 2, api.ErrSum, 2)
	readRefuses(t, r, 6, 2, api.ErrSum, 3)
	readsAt(t, r, 3, 4, "defg", 3)
}

// letters: 26 members of one byte each.
func letters() []byte {
	var all []byte
	for c := 'a'; c <= 'z'; c++ {
		all = append(all, stored(string(c))...)
	}
	return archiveOf(all)
}

// TestP12LastTakenAreThere for every cache: as many as it has room for are there, and one more is not.
func TestP12LastTakenAreThere(t *testing.T) {
	for cache := 1; cache <= 8; cache++ {
		r := opens(t, letters(), cache, 26)
		text := "abcdefghijklmnopqrstuvwxyz"
		readsAt(t, r, 0, cache, text[:cache], cache)
		readsAt(t, r, 0, cache, text[:cache], cache)
		for i := range cache {
			readsAt(t, r, i, 1, text[i:i+1], cache)
		}
		readsAt(t, r, cache, 1, text[cache:cache+1], cache+1) // the first is gone
		for i := 1; i <= cache; i++ {
			readsAt(t, r, i, 1, text[i:i+1], cache+1)
		}
		readsAt(t, r, 0, 1, "a", cache+2)
		// one more than there is room for, from the first on: each is gone when its turn comes
		readsAt(t, r, 10, cache+1, text[10:11+cache], 2*cache+3)
		readsAt(t, r, 10, cache+1, text[10:11+cache], 3*cache+4)
	}
}

// TestP12TakenAgain: who was there already is the one last taken, and counts once.
func TestP12TakenAgain(t *testing.T) {
	r := opens(t, letters(), 3, 26)
	readsAt(t, r, 0, 3, "abc", 3)
	readsAt(t, r, 0, 1, "a", 3) // b c a
	readsAt(t, r, 3, 1, "d", 4) // c a d
	readsAt(t, r, 0, 1, "a", 4) // c d a
	readsAt(t, r, 2, 1, "c", 4) // d a c
	readsAt(t, r, 1, 1, "b", 5) // a c b
	readsAt(t, r, 3, 1, "d", 6) // c b d
	for range 5 {
		readsAt(t, r, 3, 1, "d", 6)
	}
	readsAt(t, r, 1, 3, "bcd", 6)
	readsAt(t, r, 0, 1, "a", 7) // c d a
	readsAt(t, r, 2, 2, "cd", 7)
	readsAt(t, r, 1, 1, "b", 8)
}

// TestP12WithinOnePart: members that the part itself takes may drive out one that it still needs.
func TestP12WithinOnePart(t *testing.T) {
	r := opens(t, letters(), 2, 26)
	readsAt(t, r, 2, 2, "cd", 2)
	readsAt(t, r, 1, 3, "bcd", 5) // b drives c out, c drives d out
	readsAt(t, r, 3, 2, "de", 6)
	readsAt(t, r, 2, 2, "cd", 8) // c drives d out
}

// TestP12AfterAnError: the members ahead are taken, the wrong one is not, those behind it are not looked at.
func TestP12AfterAnError(t *testing.T) {
	all := slices.Concat(stored("a"), stored("b"), badSum(stored("c")), stored("d"))
	r := opens(t, archiveOf(all), 2, 4)
	readsAt(t, r, 3, 1, "d", 1)
	readRefuses(t, r, 2, 1, api.ErrSum, 2) // does not drive d out
	readRefuses(t, r, 2, 1, api.ErrSum, 3)
	readsAt(t, r, 3, 1, "d", 3)
	readRefuses(t, r, 1, 3, api.ErrSum, 5) // d b
	readsAt(t, r, 1, 1, "b", 5)
	readsAt(t, r, 3, 1, "d", 5)
	readRefuses(t, r, 0, 4, api.ErrSum, 8) // d, then a drives b out, b drives d out: a b
	readsAt(t, r, 0, 2, "ab", 8)
	readsAt(t, r, 3, 1, "d", 9)
}

func TestP12LongestParts(t *testing.T) {
	random := rand.New(rand.NewSource(120))
	b := anyBytes(random, 30000)
	r := opens(t, packed(t, b, 6, 7), 8, 30000)
	readsAt(t, r, 0, 5000, string(b[:5000]), 5)
	readsAt(t, r, 25000, 5000, string(b[25000:]), 10)
	readsAt(t, r, 12345, 5000, string(b[12345:17345]), 16)
	readsAt(t, r, 29999, 5000, string(b[29999:]), 16)
	readRefuses(t, r, 0, 5001, api.ErrArg, 16)
	full := strings.Repeat("spool ", 1000)[:4000]
	wide := opens(t, archiveOf(stored(full), stored(full), stored(full)), 1, 12000)
	readsAt(t, wide, 3500, 5000, (full + full + full)[3500:8500], 3)
	readsAt(t, wide, 3999, 2, full[3999:]+full[:1], 5)
}

func TestP13ReadAtOfPack(t *testing.T) {
	random := rand.New(rand.NewSource(131))
	for range 40 {
		b := anyBytes(random, random.Intn(1+random.Intn(30001)))
		r := opens(t, packed(t, b, random.Intn(10), 1+random.Intn(16)), 1+random.Intn(8), len(b))
		for range 30 {
			from, n := random.Intn(len(b)+50), random.Intn(1+random.Intn(5001))
			want := b[min(from, len(b)):min(from+n, len(b))]
			if out, e := r.ReadAt(from, n); string(out) != string(want) || e != api.OK {
				t.Fatalf("ReadAt(%d, %d) of %d bytes = %s, %d, want %s", from, n, len(b), short(out), e, short(want))
			}
		}
	}
}
