package spool_test

import (
	"bytes"
	"slices"
	"testing"

	"spool/api"
	"spool/spool"
)

// theEnd: what every archive ends with.
var theEnd = []byte{31, 139, 8, 4, 0, 0, 0, 0, 0, 255, 6, 0, 66, 67, 2, 0, 27, 0, 3, 0, 0, 0, 0, 0, 0, 0, 0, 0}

// stored lays a text into a member of 31 bytes more.
func stored(text string) []byte {
	n := len(text)
	head := []byte{1, byte(n % 256), byte(n / 256), byte(255 - n%256), byte(255 - n/256)}
	return memberOf(append(head, text...), text)
}

// says gives a copy of a member with another number of bytes at its end.
func says(m []byte, count int) []byte { return append(slices.Clone(m[:len(m)-4]), fourBytes(count)...) }

// badSum gives a copy of a member with another sum.
func badSum(m []byte) []byte { return with(m, len(m)-8, m[len(m)-8]^1) }

// archiveOf puts the end behind members.
func archiveOf(members ...[]byte) []byte { return append(slices.Concat(members...), theEnd...) }

func unpacks(t *testing.T, b []byte, want string) {
	t.Helper()
	out, n, e := spool.Unpack(b)
	if string(out) != want || n != len(b) || e != api.OK {
		t.Errorf("Unpack(%s) = %.40q (%d bytes), %d, %d, want %.40q (%d bytes), %d, 0", short(b), out, len(out), n, e, want, len(want), len(b))
	}
}

func unpackRefuses(t *testing.T, b []byte, want api.Errno, place int) {
	t.Helper()
	out, n, e := spool.Unpack(b)
	if out != nil || n != place || e != want {
		t.Errorf("Unpack(%s) = %.40q, %d, %d, want nil, %d, %d", short(b), out, n, e, place, want)
	}
}

// indexes asks of Index for these members, and of Open for as many bytes as they have.
func indexes(t *testing.T, b []byte, want ...api.Entry) {
	t.Helper()
	list, n, e := spool.Index(b)
	if !slices.Equal(list, want) || n != len(b) || e != api.OK {
		t.Errorf("Index(%s) = %v, %d, %d, want %v, %d, 0", short(b), list, n, e, want, len(b))
	}
	size := 0
	for _, m := range want {
		size += m.Size
	}
	for cache := 1; cache <= 8; cache++ {
		opens(t, b, cache, size)
	}
}

// indexRefuses asks the same of Open, whose errors behind the first are Index's.
func indexRefuses(t *testing.T, b []byte, want api.Errno, place int) {
	t.Helper()
	list, n, e := spool.Index(b)
	if list != nil || n != place || e != want {
		t.Errorf("Index(%s) = %v, %d, %d, want nil, %d, %d", short(b), list, n, e, place, want)
	}
	openRefuses(t, b, 1, want, place)
	openRefuses(t, b, 8, want, place)
}

// bothRefuse: where the headers and lengths alone tell that something is wrong.
func bothRefuse(t *testing.T, b []byte, want api.Errno, place int) {
	t.Helper()
	unpackRefuses(t, b, want, place)
	indexRefuses(t, b, want, place)
}

func opens(t *testing.T, b []byte, cache, size int) *spool.Reader {
	t.Helper()
	r, n, e := spool.Open(b, cache)
	if r == nil || n != size || e != api.OK {
		t.Fatalf("Open(%s, %d) = %v, %d, %d, want a reader, %d, 0", short(b), cache, r, n, e, size)
	}
	return r
}

func openRefuses(t *testing.T, b []byte, cache int, want api.Errno, place int) {
	t.Helper()
	if r, n, e := spool.Open(b, cache); r != nil || n != place || e != want {
		t.Errorf("Open(%s, %d) = %v, %d, %d, want nil, %d, %d", short(b), cache, r, n, e, place, want)
	}
}

// readsAt asks for a part, and how many members have been loaded then.
func readsAt(t *testing.T, r *spool.Reader, from, n int, want string, loads int) {
	t.Helper()
	out, e := r.ReadAt(from, n)
	if string(out) != want || e != api.OK {
		t.Errorf("ReadAt(%d, %d) = %.40q (%d bytes), %d, want %.40q (%d bytes), 0", from, n, out, len(out), e, want, len(want))
	}
	loaded(t, r, loads)
}

func readRefuses(t *testing.T, r *spool.Reader, from, n int, want api.Errno, loads int) {
	t.Helper()
	if out, e := r.ReadAt(from, n); out != nil || e != want {
		t.Errorf("ReadAt(%d, %d) = %.40q, %d, want nil, %d", from, n, out, e, want)
	}
	loaded(t, r, loads)
}

func loaded(t *testing.T, r *spool.Reader, want int) {
	t.Helper()
	if got := r.Loads(); got != want {
		t.Errorf("Loads() = %d, want %d", got, want)
	}
}

// packed is right Pack's answer; P9 holds it against what it must be.
func packed(t *testing.T, b []byte, level, workers int) []byte {
	t.Helper()
	a, e := spool.Pack(b, level, workers)
	if e != api.OK || !bytes.HasSuffix(a, theEnd) {
		t.Fatalf("Pack(%s, %d, %d) = %s, %d", short(b), level, workers, short(a), e)
	}
	return a
}

func index(t *testing.T, b []byte) ([]api.Entry, int) {
	t.Helper()
	list, n, e := spool.Index(b)
	if e != api.OK {
		t.Fatalf("Index(%s): %d at %d", short(b), e, n)
	}
	return list, n
}
