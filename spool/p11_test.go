package spool_test

import (
	"bytes"
	"math"
	"slices"
	"strings"
	"testing"

	"spool/api"
)

func TestP11Archives(t *testing.T) {
	indexes(t, theEnd)
	indexes(t, archiveOf(sevenEight()), api.Entry{At: 0, From: 0, Size: 2})
	indexes(t, archiveOf(stored("abc"), stored("d"), stored("efgh")),
		api.Entry{At: 0, From: 0, Size: 3}, api.Entry{At: 34, From: 3, Size: 1}, api.Entry{At: 66, From: 4, Size: 4})
	var all []byte
	var want []api.Entry
	from := 0
	for text, s := range samples() {
		want = append(want, api.Entry{At: len(all), From: from, Size: len(text)})
		all, from = append(all, memberOf(s, text)...), from+len(text)
		indexes(t, archiveOf(all), want...)
	}
}

func TestP11OfPack(t *testing.T) {
	for _, n := range []int{0, 1, 999, 1000, 1001, 5500, 30000} {
		var want []api.Entry
		for from := 0; from < n; from += 1000 {
			size := min(1000, n-from)
			want = append(want, api.Entry{At: from / 1000 * 1031, From: from, Size: size})
		}
		indexes(t, packed(t, make([]byte, n), 0, 5), want...)
	}
}

// TestP11StreamsAndSumsAreNotLookedAt: anything may stand there, if it is as long as the header says.
func TestP11StreamsAndSumsAreNotLookedAt(t *testing.T) {
	for _, s := range [][]byte{{7, 7}, {3, 0}, {3, 4}, {1, 9, 9, 9, 9, 9}, bytes.Repeat([]byte{255}, 300), make([]byte, 65510)} {
		for _, sum := range []int{0, 1, -1 & 0xFFFFFFFF} {
			m := member(s, sum, 5)
			indexes(t, archiveOf(m), api.Entry{At: 0, From: 0, Size: 5})
			indexes(t, archiveOf(stored("abc"), m, stored("defg")),
				api.Entry{At: 0, From: 0, Size: 3}, api.Entry{At: 34, From: 3, Size: 5}, api.Entry{At: 34 + len(m), From: 8, Size: 4})
		}
	}
}

// TestP11EndIsLookedAtWhole turns each of its bytes.
func TestP11EndIsLookedAtWhole(t *testing.T) {
	a := stored("abc")
	for at := range theEnd {
		for turn := 1; turn < 256; turn++ {
			c := theEnd[at] ^ byte(turn)
			b := append(slices.Clone(a), with(theEnd, at, c)...)
			switch {
			case at < 16:
				bothRefuse(t, b, api.ErrData, 34+at)
			case at == 16 && c < 27:
				bothRefuse(t, b, api.ErrData, 34+16)
			case at == 16 || at == 17:
				bothRefuse(t, b, api.ErrShort, 62)
			case at < 24: // the stream and the sum: a Size of 0 that is not the END's
				indexRefuses(t, b, api.ErrData, 34)
			case at == 24: // a Size, so no END
				indexRefuses(t, b, api.ErrEnd, 62)
				indexes(t, append(b, theEnd...), api.Entry{At: 0, From: 0, Size: 3}, api.Entry{At: 34, From: 3, Size: int(c)})
			case at == 25 && c < 16: // 256 to 3840
				indexRefuses(t, b, api.ErrEnd, 62)
			default:
				indexRefuses(t, b, api.ErrLimit, 34)
			}
		}
	}
}

func TestP11WithoutEnd(t *testing.T) {
	bothRefuse(t, nil, api.ErrEnd, 0)
	bothRefuse(t, []byte{}, api.ErrEnd, 0)
	bothRefuse(t, stored("abc"), api.ErrEnd, 34)
	bothRefuse(t, append(stored("abc"), stored("defg")...), api.ErrEnd, 69)
	indexRefuses(t, append(stored("abc"), badSum(stored("defg"))...), api.ErrEnd, 69)
}

func TestP11CutAnywhere(t *testing.T) {
	b := archiveOf(stored("abc"), stored("defg"))
	for cut := range len(b) {
		want := api.ErrShort
		if cut == 0 || cut == 34 || cut == 69 {
			want = api.ErrEnd
		}
		bothRefuse(t, b[:cut], want, cut)
		bothRefuse(t, bytes.Clone(b[:cut]), want, cut)
	}
}

func TestP11ErrorsAheadOfTheStream(t *testing.T) {
	good := stored("abc")
	for ahead := range 4 {
		at := ahead * len(good)
		all := func(m []byte) []byte { return archiveOf(bytes.Repeat(good, ahead), m, good) }
		for i := range 16 {
			bothRefuse(t, all(with(good, i, good[i]+1)), api.ErrData, at+i)
		}
		for number := range 27 {
			bothRefuse(t, all(with(good, 16, byte(number))), api.ErrData, at+16)
		}
		bothRefuse(t, all(with(good, 17, 9)), api.ErrShort, at+34+34+28)
		indexRefuses(t, all(with(good, 16, 34)), api.ErrLimit, at) // its last four bytes are one byte further on: 31 too
	}
}

func TestP11Sizes(t *testing.T) {
	a, m := stored("abc"), stored("defg")
	for _, size := range []int{1, 2, 255, 256, 3999, 4000} {
		indexes(t, archiveOf(a, says(m, size), a),
			api.Entry{At: 0, From: 0, Size: 3}, api.Entry{At: 34, From: 3, Size: size}, api.Entry{At: 69, From: 3 + size, Size: 3})
	}
	for _, size := range []int{4001, 4002, 4096, 8000, 60000, 60001, 65536, 65537, 1 << 24, 1<<24 + 1, math.MaxInt32, 1 << 31, 1<<31 + 1, 1<<32 - 1} {
		indexRefuses(t, archiveOf(says(m, size)), api.ErrLimit, 0)
		indexRefuses(t, archiveOf(a, says(m, size), a), api.ErrLimit, 34)
		indexRefuses(t, append(slices.Clone(a), says(m, size)...), api.ErrLimit, 34)
		indexRefuses(t, append(slices.Clone(a), says(theEnd, size)...), api.ErrLimit, 34)
	}
	indexRefuses(t, archiveOf(says(m, 0)), api.ErrData, 0)
	indexRefuses(t, archiveOf(a, says(m, 0), a), api.ErrData, 34)
	indexRefuses(t, append(slices.Clone(a), says(m, 0)...), api.ErrData, 34)
}

// TestP11NoBytes: of all the members of no bytes the END alone may be.
func TestP11NoBytes(t *testing.T) {
	for _, m := range [][]byte{stored(""), memberOf([]byte{3, 4}, ""), memberOf([]byte{3, 128}, ""), memberOf([]byte{2, 12, 0}, "")} {
		bothRefuse(t, m, api.ErrData, 0)
		bothRefuse(t, archiveOf(m), api.ErrData, 0)
		bothRefuse(t, archiveOf(stored("abc"), m), api.ErrData, 34)
	}
	indexRefuses(t, archiveOf(badSum(theEnd)), api.ErrData, 0)
}

func TestP11BehindTheEnd(t *testing.T) {
	for _, behind := range [][]byte{{0}, {31}, theEnd, stored("abc"), archiveOf(stored("abc")), theEnd[:27], make([]byte, 100000)} {
		bothRefuse(t, append(archiveOf(), behind...), api.ErrData, 28)
		bothRefuse(t, append(archiveOf(stored("abc"), stored("defg")), behind...), api.ErrData, 97)
	}
}

// TestP11MostBytes: they are counted by the lengths, so what comes out does not matter.
func TestP11MostBytes(t *testing.T) {
	m := says(stored("a"), 4000)
	most := bytes.Repeat(m, 15)
	if list, n := index(t, archiveOf(most)); len(list) != 15 || list[14] != (api.Entry{At: 14 * 32, From: 56000, Size: 4000}) || n != 15*32+28 {
		t.Errorf("Index of 60000 bytes: %v, %d", list, n)
	}
	indexRefuses(t, archiveOf(most, stored("a")), api.ErrLimit, len(most))
	indexRefuses(t, archiveOf(most, m), api.ErrLimit, len(most))
	indexRefuses(t, append(most, stored("a")...), api.ErrLimit, len(most))
	indexRefuses(t, archiveOf(most, stored("")), api.ErrData, len(most))
	indexRefuses(t, archiveOf(most, with(m, 3, 9)), api.ErrData, len(most)+3)
	indexRefuses(t, append(archiveOf(most), 1), api.ErrData, len(most)+28)
	nearly := append(bytes.Repeat(m, 14), says(m, 3998)...)
	if list, _ := index(t, archiveOf(nearly, stored("ab"))); len(list) != 16 || list[15].From != 59998 {
		t.Errorf("Index of 60000 bytes: %v", list)
	}
	indexRefuses(t, archiveOf(nearly, stored("abc")), api.ErrLimit, len(nearly))
}

// TestP11FirstFromTheFront: of two errors the one of the member ahead.
func TestP11FirstFromTheFront(t *testing.T) {
	wrong := map[string]struct {
		m     []byte
		errno api.Errno
		place int
	}{
		"head":  {with(stored("abc"), 5, 1), api.ErrData, 5},
		"fewer": {with(stored("abc"), 16, 3), api.ErrData, 16},
		"above": {says(stored("abc"), 4001), api.ErrLimit, 0},
		"none":  {says(stored("abc"), 0), api.ErrData, 0},
	}
	for _, first := range wrong {
		for _, second := range wrong {
			indexRefuses(t, slices.Concat(stored("ab"), first.m, second.m), first.errno, 33+first.place)
		}
		indexRefuses(t, slices.Concat(stored("ab"), theEnd, first.m), api.ErrData, 61)
		indexRefuses(t, slices.Concat(stored("ab"), first.m, theEnd[:20]), first.errno, 33+first.place)
	}
}

func TestP11MostMembers(t *testing.T) {
	one := memberOf([]byte{75, 4, 0}, "a")
	most := bytes.Repeat(one, 60000)
	list, n := index(t, archiveOf(most))
	if len(list) != 60000 || n != len(most)+28 {
		t.Fatalf("Index of 60000 members: %d, %d", len(list), n)
	}
	for i, m := range list {
		if m != (api.Entry{At: i * len(one), From: i, Size: 1}) {
			t.Fatalf("member %d: %v", i, m)
		}
	}
	indexRefuses(t, archiveOf(most, one), api.ErrLimit, len(most))
	r := opens(t, archiveOf(most), 8, 60000)
	readsAt(t, r, 30000, 5000, strings.Repeat("a", 5000), 5000)
	readsAt(t, r, 34992, 8, strings.Repeat("a", 8), 5000)
	readsAt(t, r, 59999, 2, "a", 5001)
}
