package spool_test

import (
	"bytes"
	"math/rand"
	"slices"
	"testing"

	"spool/api"
	"spool/spool"
)

// modelUnpack reads an archive as P10 words it, one sentence behind the other.
func modelUnpack(b []byte) ([]byte, int, api.Errno) {
	var all []byte
	for at := 0; ; {
		if at == len(b) {
			return nil, at, api.ErrEnd
		}
		out, n, e := modelUnwrap(b[at:])
		if e != api.OK {
			return nil, at + n, e
		}
		isEnd := string(b[at:at+n]) == string(theEnd)
		if len(out) == 0 && !isEnd {
			return nil, at, api.ErrData
		}
		if isEnd && at+n < len(b) {
			return nil, at + n, api.ErrData
		}
		if len(all)+len(out) > 60000 {
			return nil, at, api.ErrLimit
		}
		all, at = append(all, out...), at+n
		if isEnd {
			return all, at, api.OK
		}
	}
}

// modelIndex goes through an archive as P11 words it.
func modelIndex(b []byte) ([]api.Entry, int, api.Errno) {
	var list []api.Entry
	for at, from := 0, 0; ; {
		if at == len(b) {
			return nil, at, api.ErrEnd
		}
		n, e := modelAhead(b[at:])
		if e != api.OK {
			return nil, at + n, e
		}
		if string(b[at:at+n]) == string(theEnd) {
			if at+n < len(b) {
				return nil, at + n, api.ErrData
			}
			return list, at + n, api.OK
		}
		size := 0
		for i := range 4 {
			size = size*256 + int(b[at+n-1-i])
		}
		switch {
		case size == 0:
			return nil, at, api.ErrData
		case size > 4000 || from+size > 60000:
			return nil, at, api.ErrLimit
		}
		list = append(list, api.Entry{At: at, From: from, Size: size})
		at, from = at+n, from+size
	}
}

func unpacksAsModel(t *testing.T, b []byte) {
	t.Helper()
	out, n, e := spool.Unpack(b)
	wantOut, wantN, wantE := modelUnpack(b)
	if !bytes.Equal(out, wantOut) || e != api.OK && out != nil || n != wantN || e != wantE {
		t.Fatalf("Unpack(%s) = %.40q, %d, %d, want %.40q, %d, %d", short(b), out, n, e, wantOut, wantN, wantE)
	}
	list, n, e := spool.Index(b)
	wantList, wantN, wantE := modelIndex(b)
	if !slices.Equal(list, wantList) || e != api.OK && list != nil || n != wantN || e != wantE {
		t.Fatalf("Index(%s) = %v, %d, %d, want %v, %d, %d", short(b), list, n, e, wantList, wantN, wantE)
	}
	r, n, e := spool.Open(b, 1)
	if wantE == api.OK {
		wantN = 0
		for _, m := range wantList {
			wantN += m.Size
		}
	}
	if n != wantN || e != wantE || (r == nil) != (e != api.OK) {
		t.Fatalf("Open(%s) = %v, %d, %d, want %d, %d", short(b), r, n, e, wantN, wantE)
	}
}

// TestP10ModelOneByteTurned turns every byte of an archive into every other one.
func TestP10ModelOneByteTurned(t *testing.T) {
	b := archiveOf(memberOf([]byte{75, 4, 0}, "a"), stored("bc"), memberOf(samples()["HHHH"], "HHHH"))
	unpacksAsModel(t, b)
	for at := range b {
		for c := range 256 {
			unpacksAsModel(t, with(b, at, byte(c)))
		}
	}
}

// TestP10ModelTurned turns, cuts, doubles and leaves out bytes and members, in many ways at once.
func TestP10ModelTurned(t *testing.T) {
	random := rand.New(rand.NewSource(100))
	for range 4000 {
		var members [][]byte
		for range random.Intn(5) {
			m, _ := spool.Wrap(anyBytes(random, random.Intn(40)), random.Intn(10))
			members = append(members, turned(random, m))
		}
		b := slices.Concat(members...)
		for random.Intn(4) > 0 {
			b = append(b, turned(random, theEnd)...)
		}
		unpacksAsModel(t, b)
		unpacksAsModel(t, b[:random.Intn(len(b)+1)])
	}
}

// turned gives a copy of a member, most often a right one.
func turned(random *rand.Rand, m []byte) []byte {
	switch random.Intn(12) {
	case 0:
		at := random.Intn(len(m))
		return with(m, at, m[at]^1<<random.Intn(8))
	case 1:
		return says(m, []int{0, 1, 4000, 4001, 1<<32 - 1}[random.Intn(5)])
	case 2:
		return badSum(m)
	case 3:
		return with(m, 16, m[16]+byte(random.Intn(3)-1))
	case 4:
		return with(m, 18, 7)
	case 5:
		return slices.Clone(m[:random.Intn(len(m))])
	default:
		return slices.Clone(m)
	}
}
