package spool_test

import (
	"math/rand"
	"slices"
	"testing"

	"spool/api"
)

// modelReader reads as P12 words it: it keeps nothing but which members were taken, in their order.
type modelReader struct {
	members [][]byte
	texts   []string // by what the members say of themselves
	cache   int
	taken   []int
	loads   int
}

// there goes back through what was taken, until so many members as the cache has room for were met.
func (m *modelReader) there(i int) bool {
	var met []int
	for back := len(m.taken) - 1; back >= 0 && len(met) < m.cache; back-- {
		if !slices.Contains(met, m.taken[back]) {
			met = append(met, m.taken[back])
		}
	}
	return slices.Contains(met, i)
}

func (m *modelReader) readAt(from, n int) (string, api.Errno) {
	out, begin := "", 0
	for i, text := range m.texts {
		first, last := max(from, begin), min(from+n, begin+len(text))
		if first < last {
			if !m.there(i) {
				m.loads++
				if _, _, e := modelUnwrap(m.members[i]); e != api.OK {
					return "", e
				}
			}
			m.taken = append(m.taken, i)
			out += text[first-begin : last-begin]
		}
		begin += len(text)
	}
	return out, api.OK
}

// TestP12Model reads parts of archives with right and wrong members, in many orders.
func TestP12Model(t *testing.T) {
	random := rand.New(rand.NewSource(121))
	for range 400 {
		m := modelReader{cache: 1 + random.Intn(8)}
		size := 0
		for range random.Intn(20) {
			text := string(anyBytes(random, 1+random.Intn(9)))
			one := stored(text)
			if random.Intn(8) == 0 {
				one = [][]byte{badSum(one), with(one, 18, 7), with(one, 18, 0)}[random.Intn(3)]
			}
			m.members, m.texts = append(m.members, one), append(m.texts, text)
			size += len(text)
		}
		r := opens(t, archiveOf(m.members...), m.cache, size)
		for range 60 {
			from, n := random.Intn(size+3), random.Intn(1+random.Intn(30))
			out, e := r.ReadAt(from, n)
			want, wantE := m.readAt(from, n)
			if string(out) != want || e != wantE || e != api.OK && out != nil || r.Loads() != m.loads {
				t.Fatalf("cache %d, ReadAt(%d, %d) = %q, %d, loads %d, want %q, %d, loads %d", m.cache, from, n, out, e, r.Loads(), want, wantE, m.loads)
			}
		}
	}
}
