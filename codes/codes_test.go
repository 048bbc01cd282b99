package codes

import (
	"fmt"
	"slices"
	"testing"
)

// read takes a code's bits from a text; it tells the symbol (-1: none) and how many bits were taken.
func read(c *Code, bits string) (int, int) {
	taken := 0
	symbol, ok := c.Read(func() int {
		taken++
		return int(bits[taken-1] - '0')
	})
	if !ok {
		symbol = -1
	}
	return symbol, taken
}

func TestRead(t *testing.T) {
	for _, x := range []struct {
		lengths []int
		bits    string
		symbol  int
		taken   int
	}{
		{[]int{2, 1, 0, 2}, "0", 1, 1},
		{[]int{2, 1, 0, 2}, "10", 0, 2},
		{[]int{2, 1, 0, 2}, "11", 3, 2},
		{[]int{3, 3, 3, 3, 3, 2, 4, 4}, "00", 5, 2}, // the published example
		{[]int{3, 3, 3, 3, 3, 2, 4, 4}, "010", 0, 3},
		{[]int{3, 3, 3, 3, 3, 2, 4, 4}, "1111", 7, 4},
		{[]int{0, 0, 1}, "0", 2, 1},
		{[]int{0, 0, 1}, "111", -1, 1},
		{[]int{0, 0}, "000", -1, 1},
		{nil, "111", -1, 1},
	} {
		if symbol, taken := read(Make(x.lengths), x.bits); symbol != x.symbol || taken != x.taken {
			t.Errorf("%v: %s is %d after %d bits, want %d after %d", x.lengths, x.bits, symbol, taken, x.symbol, x.taken)
		}
	}
}

func TestFixed(t *testing.T) {
	literals, distances := Make(FixedLiterals()), Make(FixedDistances())
	for symbol := range 288 {
		word := fmt.Sprintf("%08b", 0b00110000+symbol)
		switch {
		case symbol >= 280:
			word = fmt.Sprintf("%08b", 0b11000000+symbol-280)
		case symbol >= 256:
			word = fmt.Sprintf("%07b", symbol-256)
		case symbol >= 144:
			word = fmt.Sprintf("%09b", 0b110010000+symbol-144)
		}
		if got, taken := read(literals, word); got != symbol || taken != len(word) {
			t.Errorf("%s is %d, want %d", word, got, symbol)
		}
	}
	for symbol := range 32 {
		if got, _ := read(distances, fmt.Sprintf("%05b", symbol)); got != symbol {
			t.Errorf("the distance %d is %d", symbol, got)
		}
	}
}

func TestGood(t *testing.T) {
	long := []int{1, 2, 3, 4, 5, 6, 7, 8, 9, 10, 11, 12, 13, 14, 15, 15}
	for _, x := range []struct {
		lengths []int
		good    bool
	}{
		{nil, false}, {[]int{0}, false}, {[]int{1}, true}, {[]int{0, 1, 0}, true}, {[]int{2}, false}, {[]int{15}, false},
		{[]int{1, 1}, true}, {[]int{1, 2}, false}, {[]int{1, 1, 1}, false}, {[]int{2, 1, 2}, true}, {[]int{2, 1, 3}, false},
		{long, true}, {long[:15], false}, {append(slices.Clone(long), 15), false},
		{FixedLiterals(), true}, {FixedLiterals()[:287], false}, {FixedDistances(), true}, {FixedDistances()[:30], false},
	} {
		if Make(x.lengths).Good() != x.good {
			t.Errorf("%v: good is %v", x.lengths, !x.good)
		}
	}
}

// TestNumbers: what one symbol stands for ends where the next one's begins.
func TestNumbers(t *testing.T) {
	next := 3
	for symbol := End + 1; symbol < Literals-1; symbol++ {
		least, more := Length(symbol)
		if least != next {
			t.Errorf("the length %d begins with %d, want %d", symbol, least, next)
		}
		next += 1 << more
	}
	if least, more := Length(Literals - 1); next != 259 || least != 258 || more != 0 {
		t.Errorf("lengths end with %d; the last symbol is %d, %d", next-1, least, more)
	}
	next = 1
	for symbol := range Distances {
		least, more := Distance(symbol)
		if least != next {
			t.Errorf("the distance %d begins with %d, want %d", symbol, least, next)
		}
		next += 1 << more
	}
	if next != 32769 {
		t.Errorf("distances end with %d", next-1)
	}
}
