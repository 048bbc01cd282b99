package spool_test

import (
	"bytes"
	"compress/flate"
	"io"
	"math"
	"math/rand"
	"slices"
	"strings"
	"testing"

	"spool/api"
	"spool/spool"
)

// squeezes asks of a stream all that P5 says, and gives it.
func squeezes(t *testing.T, b []byte, level int) []byte {
	t.Helper()
	s, e := spool.Deflate(b, level)
	if e != api.OK || len(s) > len(b)+5 {
		t.Fatalf("Deflate(%s, %d) = %d bytes of %d, %d", short(b), level, len(s), len(b), e)
	}
	inflates(t, s, len(b), string(b), len(s))
	inflates(t, append(bytes.Clone(s), 0), len(b), string(b), len(s))
	inflates(t, append(bytes.Clone(s), 255), api.MaxOut, string(b), len(s))
	return s
}

// squeezesExactly asks the same of readers that are not the program's; and that the bits behind the end are 0.
func squeezesExactly(t *testing.T, b []byte, level int) {
	t.Helper()
	s := squeezes(t, b, level)
	behind := bytes.NewReader(append(bytes.Clone(s), 7))
	if out, err := io.ReadAll(flate.NewReader(behind)); err != nil || !bytes.Equal(out, b) || behind.Len() != 1 {
		t.Fatalf("Deflate(%s, %d) is read by the library: %s, %v, %d left", short(b), level, short(out), err, behind.Len())
	}
	m := modelRead(s, len(b))
	if m.errno != api.OK || !bytes.Equal(m.out, b) {
		t.Fatalf("Deflate(%s, %d) is read by the model: %s, %d", short(b), level, short(m.out), m.errno)
	}
	if rest := m.bits[m.at:]; len(rest) > 7 || strings.Contains(rest, "1") {
		t.Fatalf("Deflate(%s, %d): behind the end stand the bits %q", short(b), level, rest)
	}
}

func TestP5Texts(t *testing.T) {
	for _, text := range texts() {
		for level := range 10 {
			squeezesExactly(t, []byte(text), level)
		}
	}
}

func TestP5WrongArguments(t *testing.T) {
	for _, x := range []struct{ size, level int }{
		{1, -1}, {1, 10}, {0, -1}, {0, 10}, {1, math.MinInt}, {1, math.MaxInt}, {1, 256}, {1, 1 << 32},
		{30001, 0}, {30001, 1}, {30001, 6}, {30001, 9}, {30001, -1}, {30001, 10}, {60000, 6}, {65536, 0}, {1 << 20, 9}, {30000, 10}, {30000, -1},
	} {
		if s, e := spool.Deflate(make([]byte, x.size), x.level); s != nil || e != api.ErrArg {
			t.Errorf("Deflate of %d bytes, level %d: %d bytes, %d, want nil, 1", x.size, x.level, len(s), e)
		}
	}
}

func TestP5NoBytes(t *testing.T) {
	for level := range 10 {
		for _, b := range [][]byte{nil, {}, make([]byte, 0, 9)} {
			squeezesExactly(t, b, level)
		}
	}
}

func TestP5OneByte(t *testing.T) {
	for c := range 256 {
		for level := range 10 {
			squeezesExactly(t, []byte{byte(c)}, level)
		}
	}
}

// TestP5FewBytes takes all texts of up to seven letters of three, so that each kind of end and of repeat comes.
func TestP5FewBytes(t *testing.T) {
	all := []string{""}
	for i := 0; len(all[i]) < 7; i++ {
		for _, c := range []string{"a", "b", "\xff"} {
			all = append(all, all[i]+c)
		}
	}
	for i, text := range all {
		squeezesExactly(t, []byte(text), 1+i%9)
	}
}

// TestP5Noise: bytes that can't be squeezed have five more at most, whatever they are.
func TestP5Noise(t *testing.T) {
	random := rand.New(rand.NewSource(5))
	for _, n := range []int{1, 2, 5, 10, 31, 100, 255, 256, 257, 1000, 4000, 29999, 30000} {
		b := make([]byte, n)
		random.Read(b)
		for level := range 10 {
			squeezes(t, b, level)
		}
	}
	for n := range 300 {
		b := make([]byte, n)
		random.Read(b)
		for i := range b {
			b[i] |= 0x90 // the fixed codes have nine bits for these
		}
		squeezesExactly(t, b, 1+n%9)
	}
}

func TestP5MostBytes(t *testing.T) {
	random := rand.New(rand.NewSource(6))
	b := make([]byte, 30000)
	for _, kinds := range []int{1, 2, 3, 20, 200, 256} {
		for i := range b {
			b[i] = byte(random.Intn(kinds))
		}
		for level := range 10 {
			squeezes(t, b, level)
		}
		squeezesExactly(t, b, 9)
	}
}

// TestP5Repeats takes each length and many distances, up to the greatest that there can be.
func TestP5Repeats(t *testing.T) {
	random := rand.New(rand.NewSource(7))
	noise := make([]byte, 300)
	random.Read(noise)
	for length := 3; length <= 262; length++ {
		b := slices.Concat(noise[:length], []byte{'#'}, noise[:length], []byte{'#', '+'})
		squeezesExactly(t, b, 1+length%9)
	}
	for _, distance := range []int{1, 2, 3, 4, 5, 6, 7, 8, 9, 12, 13, 16, 17, 24, 25, 32, 33, 48, 49, 64, 65, 96, 97, 128, 129, 192, 193,
		256, 257, 384, 385, 512, 513, 768, 769, 1024, 1025, 1536, 1537, 2048, 2049, 3072, 3073, 4096, 4097, 6144, 6145, 8192, 8193,
		12288, 12289, 16384, 16385, 24576, 24577, 29000, 29990, 29996} {
		b := make([]byte, distance, 30000)
		copy(b, noise)
		for i := 0; i < 300 && len(b) < 30000; i++ {
			b = append(b, b[i])
		}
		for level := 1; level <= 9; level++ {
			squeezes(t, b, level)
		}
		squeezesExactly(t, b, 9)
	}
}

// TestP5DeepCodes: how often bytes come would give codes that are longer than a stream can tell.
func TestP5DeepCodes(t *testing.T) {
	random := rand.New(rand.NewSource(8))
	var ordered []byte // with the end, which comes once, each is as many as the two ahead
	for i, a, b := 0, 1, 2; len(ordered)+a <= 30000; i, a, b = i+1, b, a+b {
		ordered = append(ordered, bytes.Repeat([]byte{byte(11 * i)}, a)...)
		mixed := bytes.Clone(ordered)
		random.Shuffle(len(mixed), func(i, k int) { mixed[i], mixed[k] = mixed[k], mixed[i] })
		squeezesExactly(t, ordered, 1+i%9)
		squeezesExactly(t, mixed, 1+i%9)
		// they were not just stored: the limit costs little
		if s := squeezes(t, mixed, 9); len(s) > 50+len(mixed)*4/10 {
			t.Errorf("%d bytes became %d", len(mixed), len(s))
		}
	}
}

// TestP5DeepRows: lengths of codes that come so unevenly that the codes of lengths would be too long.
func TestP5DeepRows(t *testing.T) {
	random := rand.New(rand.NewSource(9))
	for range 60 {
		var b []byte
		for c := range 256 {
			times := 1 << random.Intn(1+random.Intn(9))
			b = append(b, bytes.Repeat([]byte{byte(c)}, times)...)
		}
		b = b[:min(len(b), 30000)]
		random.Shuffle(len(b), func(i, k int) { b[i], b[k] = b[k], b[i] })
		squeezesExactly(t, b, 1+random.Intn(9))
	}
}

func TestP5AnyBytes(t *testing.T) {
	random := rand.New(rand.NewSource(10))
	for range 1500 {
		b := anyBytes(random, random.Intn(1<<random.Intn(13)))
		squeezes(t, b, random.Intn(10))
	}
	for range 150 {
		squeezesExactly(t, anyBytes(random, random.Intn(500)), random.Intn(10))
	}
}

// anyBytes mixes noise of few or many kinds with repeats of what stands ahead.
func anyBytes(random *rand.Rand, size int) []byte {
	kinds := 1 + random.Intn(1<<random.Intn(9))
	var b []byte
	for len(b) < size {
		if len(b) == 0 || random.Intn(4) > 0 {
			for range random.Intn(20) {
				b = append(b, byte(random.Intn(kinds)*37))
			}
			continue
		}
		distance := 1 + random.Intn(len(b))
		for range random.Intn(1 << random.Intn(10)) {
			b = append(b, b[len(b)-distance])
		}
	}
	return b[:size]
}

func TestP13InflateOfDeflate(t *testing.T) {
	random := rand.New(rand.NewSource(13))
	for range 200 {
		b := anyBytes(random, random.Intn(5000))
		for level := range 10 {
			s, _ := spool.Deflate(b, level)
			inflates(t, s, len(b), string(b), len(s))
			if len(b) > 0 {
				refuses(t, s, len(b)-1, api.ErrLimit)
			}
			refuses(t, s[:len(s)-1], len(b), api.ErrShort)
		}
	}
}
