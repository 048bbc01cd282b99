package spool_test

import (
	"bytes"
	"math"
	"math/rand"
	"sync"
	"testing"

	"spool/api"
	"spool/spool"
)

func TestP1MembersEndWithoutPanic(t *testing.T) {
	random := rand.New(rand.NewSource(14))
	for range 3000 {
		b := make([]byte, random.Intn(120))
		random.Read(b)
		copy(b, sixteen[:random.Intn(17)])
		out, n, e := spool.Unwrap(b)
		if n < 0 || n > len(b) || e != api.OK && out != nil {
			t.Fatalf("Unwrap(%v) = %v, %d, %d", b, out, n, e)
		}
		for _, level := range []int{math.MinInt, -1, 0, 5, 9, 10, math.MaxInt} {
			m, e := spool.Wrap(b, level)
			if wrong := level < 0 || level > 9; wrong && (m != nil || e != api.ErrArg) || !wrong && (len(m) < 28 || e != api.OK) {
				t.Fatalf("Wrap(%v, %d) = %v, %d", b, level, m, e)
			}
		}
	}
}

func TestP1UnwrapLeavesWhatIsHandedIn(t *testing.T) {
	for text, s := range samples() {
		b := memberOf(s, text)
		for cut := range len(b) + 1 {
			whole, part := guarded(b[:cut])
			before := bytes.Clone(whole)
			spool.Unwrap(part)
			if !bytes.Equal(whole, before) {
				t.Fatalf("Unwrap wrote into %v: %v", before, whole)
			}
		}
		whole, part := guarded(b)
		out, _, _ := spool.Unwrap(part)
		clear(whole)
		if string(out) != text {
			t.Errorf("what came out hangs on what was handed in: %q, want %q", out, text)
		}
		fill(out)
		if !bytes.Equal(whole, make([]byte, len(whole))) {
			t.Errorf("what came out lies in what was handed in")
		}
	}
}

func TestP1WrapLeavesWhatIsHandedIn(t *testing.T) {
	for _, text := range append(texts(), string(make([]byte, 4001))) {
		for level := -1; level <= 10; level++ {
			whole, part := guarded([]byte(text))
			before := bytes.Clone(whole)
			m, _ := spool.Wrap(part, level)
			if !bytes.Equal(whole, before) {
				t.Fatalf("Wrap wrote into %s: %s", short(before), short(whole))
			}
			kept := bytes.Clone(m)
			clear(whole)
			if !bytes.Equal(m, kept) {
				t.Fatalf("level %d: the member hangs on what was handed in", level)
			}
			fill(m)
			if !bytes.Equal(whole, make([]byte, len(whole))) {
				t.Fatalf("level %d: the member lies in what was handed in", level)
			}
		}
	}
}

// fill writes into a list and into its spare room.
func fill(b []byte) {
	room := b[:cap(b)]
	for i := range room {
		room[i] = 'x'
	}
}

// TestP1MembersAreNewMemory: what every member begins with is not the caller's to change for the next one.
func TestP1MembersAreNewMemory(t *testing.T) {
	for _, text := range texts() {
		for level := range 10 {
			first, _ := spool.Wrap([]byte(text), level)
			want := bytes.Clone(first)
			second, _ := spool.Wrap([]byte(text), level)
			out, _, _ := spool.Unwrap(second)
			fill(first)
			third, _ := spool.Wrap([]byte(text), level)
			if !bytes.Equal(second, want) || !bytes.Equal(third, want) || string(out) != text {
				t.Fatalf("level %d: after writing into an answer: %s, %s, want %s", level, short(second), short(third), short(want))
			}
			fill(out)
			unwraps(t, want, text, len(want))
		}
	}
}

func TestP1MembersHangOnArgumentsAlone(t *testing.T) {
	var group sync.WaitGroup
	for range 8 {
		group.Go(func() {
			for range 20 {
				for text, s := range samples() {
					b := memberOf(s, text)
					unwrapRefuses(t, with(b, len(b)-1, 1), api.ErrSum, len(b)-4)
					unwraps(t, b, text, len(b))
					m, e := spool.Wrap([]byte(text), 9)
					again, _ := spool.Wrap([]byte(text), 9)
					if e != api.OK || !bytes.Equal(m, again) {
						t.Errorf("Wrap(%.40q, 9) = %s, then %s", text, short(m), short(again))
					}
				}
			}
		})
	}
	group.Wait()
}
