package spool_test

import (
	"bytes"
	"math/bits"
	"math/rand"
	"slices"
	"strings"
	"sync"
	"testing"

	"spool/api"
	"spool/spool"
)

func TestP6StoredExample(t *testing.T) {
	if s, e := spool.Deflate([]byte{7, 8}, 0); !bytes.Equal(s, []byte{1, 2, 0, 253, 255, 7, 8}) || e != api.OK {
		t.Errorf("Deflate(7 8, 0) = %v, %d", s, e)
	}
}

func TestP6StoredIsOneBlock(t *testing.T) {
	random := rand.New(rand.NewSource(60))
	for _, n := range []int{0, 1, 2, 255, 256, 257, 511, 512, 4000, 16384, 29999, 30000} {
		noise := make([]byte, n)
		random.Read(noise)
		for _, b := range [][]byte{noise, make([]byte, n), bytes.Repeat([]byte{255}, n)} {
			want := slices.Concat([]byte{1, byte(n % 256), byte(n / 256), byte(255 - n%256), byte(255 - n/256)}, b)
			if s, e := spool.Deflate(b, 0); !bytes.Equal(s, want) || e != api.OK {
				t.Errorf("Deflate of %d bytes, level 0: %s, %d", n, short(s), e)
			}
		}
	}
}

func TestP6EqualBytes(t *testing.T) {
	sizes := []int{999, 1000, 1001, 3000, 4999, 9999, 10000, 29798, 29999, 30000}
	for n := range 620 {
		sizes = append(sizes, n)
	}
	for i, n := range sizes {
		for level := 1; level <= 9; level++ {
			b := bytes.Repeat([]byte{byte(41 * (i + level))}, n)
			if s := squeezes(t, b, level); len(s) > 20+n/100 {
				t.Errorf("%d times %d, level %d: %d bytes", n, b[0], level, len(s))
			}
		}
	}
	for c := range 256 {
		for level := 1; level <= 9; level++ {
			if s := squeezes(t, bytes.Repeat([]byte{byte(c)}, 777), level); len(s) > 27 {
				t.Errorf("777 times %d, level %d: %d bytes", c, level, len(s))
			}
		}
	}
}

// twoKinds: ways to lay noughts and ones.
func twoKinds(random *rand.Rand) map[string]func(i int) int {
	period := 2 + random.Intn(300)
	square := 0
	return map[string]func(i int) int{
		"even chances":  func(int) int { return random.Intn(2) },
		"one in four":   func(int) int { return random.Intn(4) / 3 },
		"one in twenty": func(int) int { return random.Intn(20) / 19 },
		"in turn":       func(i int) int { return i % 2 },
		"periods":       func(i int) int { return i % period / (period - 1) },
		"runs":          func(i int) int { return bits.Len(uint(i)) % 2 },
		"no cubes":      func(i int) int { return bits.OnesCount(uint(i)) % 2 },
		"squares": func(i int) int {
			if i == square*square {
				square++
				return 1
			}
			return 0
		},
		"all numbers": func(i int) int { return i / 16 >> (i % 16) & 1 },
	}
}

func TestP6TwoKinds(t *testing.T) {
	random := rand.New(rand.NewSource(61))
	sizes := []int{1000, 2500, 9999, 30000}
	for n := 0; n < 420; n += 1 + n/60 {
		sizes = append(sizes, n)
	}
	for _, n := range sizes {
		for level := 1; level <= 9; level++ {
			for name, kind := range twoKinds(random) {
				kinds := []byte{byte(random.Intn(256)), byte(random.Intn(256))}
				b := make([]byte, n)
				for i := range b {
					b[i] = kinds[kind(i)]
				}
				if s := squeezes(t, b, level); len(s) > 60+n/4 {
					t.Errorf("%d bytes of two kinds, %s, level %d: %d bytes", n, name, level, len(s))
				}
			}
		}
	}
}

func TestP6SameAtEachCall(t *testing.T) {
	random := rand.New(rand.NewSource(62))
	type asked struct {
		b     []byte
		level int
		want  []byte
	}
	var all []asked
	for _, text := range texts() {
		for level := range 10 {
			want, _ := spool.Deflate([]byte(text), level)
			all = append(all, asked{[]byte(text), level, bytes.Clone(want)})
		}
	}
	random.Shuffle(len(all), func(i, k int) { all[i], all[k] = all[k], all[i] })
	var group sync.WaitGroup
	for i := range 8 {
		group.Go(func() {
			for k := range all {
				x := all[(k+i*9)%len(all)]
				_, part := guarded(x.b)
				if s, e := spool.Deflate(part, x.level); !bytes.Equal(s, x.want) || e != api.OK {
					t.Errorf("Deflate(%s, %d): another stream than the first time", short(x.b), x.level)
				}
			}
		})
	}
	group.Wait()
}

// TestP6LevelsSqueeze: what comes again and again is far shorter at each level from 1 on.
func TestP6LevelsSqueeze(t *testing.T) {
	b := []byte(strings.Repeat("spool squeezes bytes and reads any part of them. ", 100))
	for level := 1; level <= 9; level++ {
		if s := squeezes(t, b, level); len(s) > 200 {
			t.Errorf("level %d: %d bytes became %d", level, len(b), len(s))
		}
	}
}
