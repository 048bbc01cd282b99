package spool_test

import (
	"bytes"
	"math/rand"
	"slices"
	"testing"

	"spool/api"
)

// behind puts an archive behind another one's members.
func behind(first, second []byte) []byte { return slices.Concat(first[:len(first)-28], second) }

// archiveOfBoth asks all that can be asked of one archive: what comes out, its members, and its parts.
func archiveOfBoth(t *testing.T, first, second []byte, texts ...[]byte) {
	t.Helper()
	both, text := behind(first, second), bytes.Join(texts, nil)
	unpacks(t, both, string(text))
	ahead, _ := index(t, first)
	then, _ := index(t, second)
	for i := range then {
		then[i].At += len(first) - 28
		then[i].From += len(texts[0])
	}
	indexes(t, both, append(ahead, then...)...)
	r := opens(t, both, 2, len(text))
	for from := 0; from < len(text); from += 701 {
		if out, e := r.ReadAt(from, 1500); string(out) != string(text[from:min(from+1500, len(text))]) || e != api.OK {
			t.Fatalf("ReadAt(%d, 1500) = %s, %d", from, short(out), e)
		}
	}
}

func TestP14OneBehindAnother(t *testing.T) {
	random := rand.New(rand.NewSource(140))
	for range 60 {
		a, b := anyBytes(random, random.Intn(1+random.Intn(6000))), anyBytes(random, random.Intn(1+random.Intn(6000)))
		first, second := packed(t, a, random.Intn(10), 1+random.Intn(16)), packed(t, b, random.Intn(10), 1+random.Intn(16))
		archiveOfBoth(t, first, second, a, b)
	}
}

func TestP14OfNoBytes(t *testing.T) {
	b := archiveOf(stored("abc"), stored("defg"))
	archiveOfBoth(t, theEnd, theEnd, nil, nil)
	archiveOfBoth(t, theEnd, b, nil, []byte("abcdefg"))
	archiveOfBoth(t, b, theEnd, []byte("abcdefg"), nil)
	archiveOfBoth(t, b, b, []byte("abcdefg"), []byte("abcdefg"))
	// with its END it is none
	bothRefuse(t, slices.Concat(b, b), api.ErrData, len(b))
	bothRefuse(t, slices.Concat(theEnd, b), api.ErrData, 28)
}

// TestP14Many: one behind the other, seven times.
func TestP14Many(t *testing.T) {
	all, text := slices.Clone(theEnd), []byte(nil)
	for i := range 7 {
		b := anyBytes(rand.New(rand.NewSource(int64(i))), 1500*i)
		one := packed(t, b, i, 3)
		archiveOfBoth(t, all, one, text, b)
		all, text = behind(all, one), append(text, b...)
	}
}

func TestP14MostBytes(t *testing.T) {
	b := anyBytes(rand.New(rand.NewSource(141)), 30000)
	half := packed(t, b, 6, 16)
	archiveOfBoth(t, half, half, b, b)
	both := behind(half, half)
	bothRefuse(t, behind(both, archiveOf(stored("a"))), api.ErrLimit, len(both)-28)
	bothRefuse(t, behind(both, half), api.ErrLimit, len(both)-28)
	less := packed(t, b[:29999], 6, 16)
	archiveOfBoth(t, behind(half, less), archiveOf(stored("a")), append(slices.Clone(b), b[:29999]...), []byte("a"))
	bothRefuse(t, behind(behind(half, less), archiveOf(stored("ab"))), api.ErrLimit, len(half)+len(less)-56)
}
