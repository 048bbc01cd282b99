package spool_test

import (
	"bytes"
	"math/rand"
	"strings"
	"testing"

	"spool/api"
)

func TestP10Archives(t *testing.T) {
	unpacks(t, theEnd, "")
	unpacks(t, archiveOf(sevenEight()), "\x07\x08")
	unpacks(t, archiveOf(stored("abc"), stored("d"), stored("efgh")), "abcdefgh")
	all, text := []byte(nil), ""
	for out, s := range samples() {
		all, text = append(all, memberOf(s, out)...), text+out
		unpacks(t, archiveOf(all), text)
	}
	for _, out := range texts()[1:] {
		for _, s := range squeezed(out) {
			unpacks(t, archiveOf(memberOf(s, out), stored("x")), out+"x")
		}
	}
}

// TestP10SizesOfMembers: 1 to MaxBlock bytes, whatever Pack makes.
func TestP10SizesOfMembers(t *testing.T) {
	for _, n := range []int{1, 2, 999, 1000, 1001, 3999, 4000} {
		text := strings.Repeat("spool ", 1000)[:n]
		unpacks(t, archiveOf(stored(text), stored("behind")), text+"behind")
	}
	text := strings.Repeat("spool ", 1000)[:4001]
	unpackRefuses(t, archiveOf(stored("abc"), stored(text)), api.ErrLimit, 34+18)
}

func TestP10WithoutEnd(t *testing.T) {
	unpackRefuses(t, nil, api.ErrEnd, 0)
	unpackRefuses(t, []byte{}, api.ErrEnd, 0)
	unpackRefuses(t, stored("abc"), api.ErrEnd, 34)
	unpackRefuses(t, append(stored("abc"), stored("defg")...), api.ErrEnd, 69)
}

// TestP10CutAnywhere: an archive that ends where a member would begin ends otherwise than one that ends in a member.
func TestP10CutAnywhere(t *testing.T) {
	b := archiveOf(stored("abc"), stored("defg"))
	for cut := range len(b) {
		want := api.ErrShort
		if cut == 0 || cut == 34 || cut == 69 {
			want = api.ErrEnd
		}
		unpackRefuses(t, b[:cut], want, cut)
		unpackRefuses(t, bytes.Clone(b[:cut]), want, cut)
	}
}

// TestP10ErrorsOfUnwrap: each kind of them in each member, at its place in all.
func TestP10ErrorsOfUnwrap(t *testing.T) {
	good := stored("abc")
	for ahead := range 4 {
		at := ahead * len(good)
		all := func(m []byte) []byte { return archiveOf(bytes.Repeat(good, ahead), m, good) }
		for i := range 16 {
			unpackRefuses(t, all(with(good, i, good[i]+1)), api.ErrData, at+i)
		}
		unpackRefuses(t, all(with(good, 16, 26)), api.ErrData, at+16)
		unpackRefuses(t, all(with(good, 17, 9)), api.ErrShort, at+34+34+28)
		unpackRefuses(t, all(with(good, 18, 7)), api.ErrData, at+18)
		unpackRefuses(t, all(with(good, 19, 4)), api.ErrData, at+18)
		unpackRefuses(t, all(with(good, 18, 0)), api.ErrShort, at+18)
		unpackRefuses(t, all(memberOf([]byte{75, 4, 0, 9}, "a")), api.ErrData, at+21)
		unpackRefuses(t, all(badSum(good)), api.ErrSum, at+26)
		unpackRefuses(t, all(says(good, 4)), api.ErrSum, at+30)
		unpackRefuses(t, all(says(good, 0)), api.ErrSum, at+30)
		unpackRefuses(t, all(says(good, 4001)), api.ErrSum, at+30)
	}
}

// TestP10NoBytes: of all the members of no bytes the END alone may be.
func TestP10NoBytes(t *testing.T) {
	for _, m := range [][]byte{memberOf([]byte{1, 0, 0, 255, 255}, ""), memberOf([]byte{3, 4}, ""), memberOf([]byte{3, 128}, ""), memberOf([]byte{2, 12, 0}, "")} {
		unpackRefuses(t, m, api.ErrData, 0)
		unpackRefuses(t, archiveOf(m), api.ErrData, 0)
		unpackRefuses(t, archiveOf(stored("abc"), m), api.ErrData, 34)
		unpackRefuses(t, append(stored("abc"), m...), api.ErrData, 34)
		unpackRefuses(t, append(archiveOf(stored("abc")), m...), api.ErrData, 62)
	}
	unpackRefuses(t, archiveOf(badSum(theEnd)), api.ErrSum, 20)
	unpackRefuses(t, archiveOf(says(theEnd, 1)), api.ErrSum, 24)
	unpackRefuses(t, append(stored("abc"), with(theEnd, 19, 1)...), api.ErrData, 34+18)
}

func TestP10BehindTheEnd(t *testing.T) {
	for _, behind := range [][]byte{{0}, {31}, theEnd, stored("abc"), archiveOf(stored("abc")), theEnd[:27], make([]byte, 100000)} {
		unpackRefuses(t, append(archiveOf(), behind...), api.ErrData, 28)
		unpackRefuses(t, append(archiveOf(stored("abc"), stored("defg")), behind...), api.ErrData, 97)
	}
}

// TestP10MostBytes: the 60000th byte comes out, and no member with one more.
func TestP10MostBytes(t *testing.T) {
	full := stored(strings.Repeat("spool ", 1000)[:4000])
	text := strings.Repeat(strings.Repeat("spool ", 1000)[:4000], 15)
	most := bytes.Repeat(full, 15)
	unpacks(t, archiveOf(most), text)
	nearly := append(bytes.Repeat(full, 14), stored(text[:3998])...)
	unpacks(t, archiveOf(nearly, stored("ab")), text[:59998]+"ab")
	unpackRefuses(t, archiveOf(nearly, stored("abc")), api.ErrLimit, len(nearly))
	unpackRefuses(t, archiveOf(nearly, full), api.ErrLimit, len(nearly))
	unpackRefuses(t, archiveOf(most, stored("a")), api.ErrLimit, len(most))
	unpackRefuses(t, append(most, stored("a")...), api.ErrLimit, len(most))
	unpackRefuses(t, most, api.ErrEnd, len(most))
	// what Unwrap refuses, and a member of no bytes, is told ahead of that
	unpackRefuses(t, archiveOf(most, badSum(stored("a"))), api.ErrSum, len(most)+24)
	unpackRefuses(t, archiveOf(most, with(stored("a"), 18, 7)), api.ErrData, len(most)+18)
	unpackRefuses(t, archiveOf(most, stored("")), api.ErrData, len(most))
	unpackRefuses(t, append(archiveOf(most), 1), api.ErrData, len(most)+28)
}

func TestP10MostMembers(t *testing.T) {
	one := memberOf([]byte{75, 4, 0}, "a")
	most := bytes.Repeat(one, 60000)
	unpacks(t, archiveOf(most), strings.Repeat("a", 60000))
	unpackRefuses(t, archiveOf(most, one), api.ErrLimit, len(most))
	unpackRefuses(t, most, api.ErrEnd, len(most))
}

func TestP13UnpackOfPack(t *testing.T) {
	random := rand.New(rand.NewSource(130))
	for range 60 {
		b := anyBytes(random, random.Intn(1+random.Intn(30001)))
		for level := range 10 {
			unpacks(t, packed(t, b, level, 1+random.Intn(16)), string(b))
		}
	}
	for _, n := range []int{0, 1, 999, 1000, 1001, 29999, 30000} {
		noise := make([]byte, n)
		random.Read(noise)
		unpacks(t, packed(t, noise, 9, 16), string(noise))
		unpacks(t, packed(t, make([]byte, n), 9, 16), string(make([]byte, n)))
	}
}
