package codes

import (
	"fmt"
	"math/rand"
	"slices"
	"testing"
)

func TestHeap(t *testing.T) {
	random := rand.New(rand.NewSource(1))
	for size := range 60 {
		var h heap
		var want []node
		for i := range size {
			n := node{random.Intn(9), i}
			h.push(n)
			want = append(want, n)
			if random.Intn(3) == 0 {
				slices.SortFunc(want, compare)
				if got := h.pop(); got != want[0] {
					t.Fatalf("%v came out, want %v", got, want[0])
				}
				want = want[1:]
			}
		}
		slices.SortFunc(want, compare)
		for _, n := range want {
			if got := h.pop(); got != n {
				t.Fatalf("%v came out, want %v", got, n)
			}
		}
		if len(h) != 0 {
			t.Fatalf("%v are left", h)
		}
	}
}

func compare(a, b node) int { return 1000*(a.weight-b.weight) + a.number - b.number }

func TestLengths(t *testing.T) {
	for _, x := range []struct {
		counts  []int
		longest int
		want    []int
	}{
		{nil, 15, nil},
		{[]int{0, 0}, 15, []int{0, 0}},
		{[]int{0, 7, 0}, 15, []int{0, 1, 0}},
		{[]int{0, 7, 900}, 15, []int{0, 1, 1}},
		{[]int{5, 1, 1}, 15, []int{1, 2, 2}},
		{[]int{1, 1, 0, 1, 1}, 15, []int{2, 2, 0, 2, 2}},
		{[]int{1, 2, 4, 8, 16}, 15, []int{4, 4, 3, 2, 1}},
		{[]int{1, 2, 4, 8, 16}, 4, []int{4, 4, 3, 2, 1}},
		{[]int{1, 1, 1, 1, 1, 1, 1, 1}, 3, []int{3, 3, 3, 3, 3, 3, 3, 3}},
		{[]int{1, 2, 4, 8, 16, 32, 64, 128}, 3, []int{3, 3, 3, 3, 3, 3, 3, 3}},
	} {
		before := slices.Clone(x.counts)
		if got := Lengths(x.counts, x.longest); !slices.Equal(got, x.want) {
			t.Errorf("Lengths(%v, %d) = %v, want %v", x.counts, x.longest, got, x.want)
		}
		if !slices.Equal(x.counts, before) {
			t.Errorf("Lengths wrote into %v: %v", before, x.counts)
		}
	}
}

// least tells the fewest bits that codes can take: every way to put two together is tried.
func least(weights []int) int {
	if len(weights) < 2 {
		return 0
	}
	best := -1
	for i := range weights {
		for j := range i {
			both := weights[i] + weights[j]
			rest := slices.Delete(slices.Delete(slices.Clone(weights), i, i+1), j, j+1)
			if bits := both + least(append(rest, both)); best < 0 || bits < best {
				best = bits
			}
		}
	}
	return best
}

func taken(counts, lengths []int) int {
	bits := 0
	for i, n := range lengths {
		bits += n * counts[i]
	}
	return bits
}

func TestLengthsTakeTheFewestBits(t *testing.T) {
	random := rand.New(rand.NewSource(2))
	for range 300 {
		counts := make([]int, 2+random.Intn(5))
		for i := range counts {
			counts[i] = 1 + random.Intn(1<<random.Intn(8))
		}
		lengths := Lengths(counts, 15)
		if got, want := taken(counts, lengths), least(counts); got != want || !Make(lengths).Good() {
			t.Fatalf("Lengths(%v) = %v: %d bits, want %d", counts, lengths, got, want)
		}
	}
}

// TestLengthsKeepToTheLongest takes counts that would give far longer codes: each is the two ahead together, or twice the one ahead.
func TestLengthsKeepToTheLongest(t *testing.T) {
	for _, size := range []int{2, 5, 9, 16, 17, 19, 30, 45, 60} {
		for _, longest := range []int{6, 7, 15} {
			a, b := make([]int, size), make([]int, size)
			for i := range a {
				a[i], b[i] = 1, 1<<i
				if i > 1 {
					a[i] = a[i-1] + a[i-2]
				}
			}
			for _, counts := range [][]int{a, b} {
				lengths := Lengths(counts, longest)
				if !Make(lengths).Good() || slices.Max(lengths) > longest || slices.Min(lengths) < 1 {
					t.Errorf("Lengths(%v, %d) = %v", counts, longest, lengths)
				}
				for i := range counts[1:] {
					if counts[i] < counts[i+1] && lengths[i] < lengths[i+1] {
						t.Errorf("Lengths(%v, %d) = %v: what comes more often is longer", counts, longest, lengths)
					}
				}
			}
		}
	}
}

func TestLengthsOfManySymbols(t *testing.T) {
	random := rand.New(rand.NewSource(3))
	for range 300 {
		counts := make([]int, Literals)
		for i := range counts {
			counts[i] = max(0, random.Intn(1<<random.Intn(16))-random.Intn(20))
		}
		counts[End] = 1
		lengths := Lengths(counts, MaxBits)
		if !Make(lengths).Good() || slices.Max(lengths) > MaxBits {
			t.Fatalf("Lengths(%v) = %v", counts, lengths)
		}
		for i, n := range counts {
			if (n > 0) != (lengths[i] > 0) {
				t.Fatalf("symbol %d comes %d times and has the length %d", i, n, lengths[i])
			}
		}
	}
}

func TestWords(t *testing.T) {
	// the published example
	if got := Words([]int{3, 3, 3, 3, 3, 2, 4, 4}); !slices.Equal(got, []int{0b010, 0b011, 0b100, 0b101, 0b110, 0b00, 0b1110, 0b1111}) {
		t.Errorf("Words = %b", got)
	}
	if got := Words([]int{0, 1, 0}); !slices.Equal(got, []int{0, 0, 0}) {
		t.Errorf("Words = %b", got)
	}
	deep := []int{1, 2, 3, 4, 5, 6, 7, 8, 9, 10, 11, 12, 13, 14, 15, 15}
	for _, lengths := range [][]int{FixedLiterals(), FixedDistances(), deep, {2, 1, 0, 2}, {0, 1}} {
		c, words := Make(lengths), Words(lengths)
		for symbol, n := range lengths {
			if n == 0 {
				continue
			}
			if got, taken := read(c, fmt.Sprintf("%0*b", n, words[symbol])); got != symbol || taken != n {
				t.Errorf("%v: the word of %d is read as %d", lengths, symbol, got)
			}
		}
	}
}

// TestSymbols: each number has the symbol that stands for it, and the rest that makes it up.
func TestSymbols(t *testing.T) {
	for length := Shortest; length <= Longest; length++ {
		symbol, rest, more := OfLength(length)
		if least, bits := Length(symbol); least+rest != length || bits != more || rest < 0 || rest >= 1<<more {
			t.Errorf("the length %d is %d and %d of %d bits", length, symbol, rest, more)
		}
	}
	if symbol, _, more := OfLength(Longest); symbol != 285 || more != 0 {
		t.Errorf("the length %d is %d and %d bits", Longest, symbol, more)
	}
	for distance := 1; distance <= 32768; distance++ {
		symbol, rest, more := OfDistance(distance)
		if least, bits := Distance(symbol); least+rest != distance || bits != more || rest < 0 || rest >= 1<<more {
			t.Errorf("the distance %d is %d and %d of %d bits", distance, symbol, rest, more)
		}
	}
}
