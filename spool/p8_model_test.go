package spool_test

import (
	"bytes"
	"math/rand"
	"testing"

	"spool/api"
	"spool/spool"
)

// modelAhead reads what stands ahead of a member's stream: how many bytes the member has.
func modelAhead(b []byte) (int, api.Errno) {
	for at := 0; at < 16; at++ {
		if at >= len(b) {
			return len(b), api.ErrShort
		}
		if b[at] != sixteen[at] {
			return at, api.ErrData
		}
	}
	if len(b) == 16 || len(b) == 17 {
		return len(b), api.ErrShort
	}
	size := 1 + int(b[16]) + 256*int(b[17])
	if size < 28 {
		return 16, api.ErrData
	}
	if len(b) < size {
		return len(b), api.ErrShort
	}
	return size, api.OK
}

// modelUnwrap reads a member as P8 words it, one sentence behind the other.
func modelUnwrap(b []byte) ([]byte, int, api.Errno) {
	size, e := modelAhead(b)
	if e != api.OK {
		return nil, size, e
	}
	between := b[18 : size-8]
	out, used, e := modelInflate(between, 4000)
	if e != api.OK {
		return nil, 18, e
	}
	if used != len(between) {
		return nil, 18 + used, api.ErrData
	}
	if !bytes.Equal(b[size-8:size-4], fourBytes(sumOf(string(out)))) {
		return nil, size - 8, api.ErrSum
	}
	if !bytes.Equal(b[size-4:size], fourBytes(len(out))) {
		return nil, size - 4, api.ErrSum
	}
	return out, size, api.OK
}

func unwrapsAsModel(t *testing.T, b []byte) {
	t.Helper()
	out, n, e := spool.Unwrap(b)
	wantOut, wantN, wantE := modelUnwrap(b)
	if !bytes.Equal(out, wantOut) || e != api.OK && out != nil || n != wantN || e != wantE {
		t.Fatalf("Unwrap(%s) = %.40q, %d, %d, want %.40q, %d, %d", short(b), out, n, e, wantOut, wantN, wantE)
	}
}

// TestP8ModelOneByteTurned turns every byte of members into every other one.
func TestP8ModelOneByteTurned(t *testing.T) {
	for text, s := range samples() {
		b := append(memberOf(s, text), "behind"...)
		for at := range b {
			for c := range 256 {
				unwrapsAsModel(t, with(b, at, byte(c)))
			}
		}
	}
}

// TestP8ModelTurned turns, cuts and doubles bytes of members in many ways at once.
func TestP8ModelTurned(t *testing.T) {
	random := rand.New(rand.NewSource(80))
	for range 4000 {
		text := anyBytes(random, random.Intn(200))
		b, _ := spool.Wrap(text, random.Intn(10))
		for range random.Intn(4) {
			at := random.Intn(len(b))
			switch random.Intn(4) {
			case 0:
				b[at] ^= 1 << random.Intn(8)
			case 1:
				b = b[:at+1]
			case 2:
				b = append(b[:at:at], b[max(0, at-random.Intn(9)):]...)
			default:
				b[min(len(b)-1, 16)] += byte(random.Intn(3) - 1)
			}
		}
		unwrapsAsModel(t, b)
	}
}

// TestP8ModelAnyStream: anything between the front and a right or wrong end.
func TestP8ModelAnyStream(t *testing.T) {
	random := rand.New(rand.NewSource(81))
	for range 6000 {
		s := make([]byte, 2+random.Intn(60))
		random.Read(s)
		out, used, _ := modelInflate(s, 4000)
		if used > 0 && random.Intn(2) > 0 {
			s = s[:used]
		}
		b := memberOf(s, string(out))
		if random.Intn(3) == 0 {
			b[len(b)-1-random.Intn(8)]++
		}
		unwrapsAsModel(t, b)
		unwrapsAsModel(t, append(b, b...))
	}
}
