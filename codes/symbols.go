package codes

import "math/bits"

// End is the symbol behind a block's last one.
const End = 256

// How many symbols stand for something. (The fixed codes have a few more, which no stream may use.)
const (
	Literals  = 286
	Distances = 30
	OfLengths = 19 // those by which a dynamic block tells its lengths
)

// The symbols by which a dynamic block tells its lengths, but for those that are a length themselves.
const (
	Again     = 16
	Zeros     = 17
	ManyZeros = 18
)

// MaxBitsOfLengths is the greatest length that a dynamic block can give a code of lengths.
const MaxBitsOfLengths = 7

// The lengths that a symbol can stand for.
const (
	Shortest = 3
	Longest  = 258
)

var order = [OfLengths]int{16, 17, 18, 0, 8, 7, 9, 6, 10, 5, 11, 4, 12, 3, 13, 2, 14, 1, 15}

// Ordered tells whose length a dynamic block tells at i (0 to OfLengths - 1).
func Ordered(i int) int { return order[i] }

// Length tells the least length that a symbol (End + 1 to Literals - 1) stands for, and how many bits more it has.
func Length(symbol int) (int, int) {
	if symbol == Literals-1 {
		return Longest, 0 // the one that the rule of fours does not give
	}
	least, more := steps(symbol-End-1, 4)
	return Shortest + least, more
}

// OfLength tells the symbol of a length (Shortest to Longest), the number behind it, and how many bits that has.
func OfLength(length int) (symbol, rest, more int) {
	if length == Longest {
		return Literals - 1, 0, 0 // which spares the bits that the rule of fours would take
	}
	symbol, rest, more = stepOf(length-Shortest, 4)
	return End + 1 + symbol, rest, more
}

// Distance tells the least distance that a symbol (0 to Distances - 1) stands for, and how many bits more it has.
func Distance(symbol int) (int, int) {
	least, more := steps(symbol, 2)
	return 1 + least, more
}

// OfDistance tells the symbol of a distance (1 to 32768), the number behind it, and how many bits that has.
func OfDistance(distance int) (symbol, rest, more int) {
	return stepOf(distance-1, 2)
}

// steps: symbols of the first two groups of this many stand for one number each; those of a group behind have one bit more
// than those of the group ahead, and go on where these end.
func steps(i, group int) (int, int) {
	if i < 2*group {
		return i, 0
	}
	more := i/group - 1
	return (group + i%group) << more, more
}

// stepOf is steps turned round: which one of them a number n belongs to, and what is left of it.
func stepOf(n, group int) (i, rest, more int) {
	more = max(0, bits.Len(uint(n/group))-1)
	return more*group + n>>more, n & (1<<more - 1), more
}

// FixedLiterals are the lengths of a fixed block's literal codes.
func FixedLiterals() []int {
	lengths := make([]int, 288)
	for i := range lengths {
		switch {
		case i < 144:
			lengths[i] = 8
		case i < 256:
			lengths[i] = 9
		case i < 280:
			lengths[i] = 7
		default:
			lengths[i] = 8
		}
	}
	return lengths
}

// FixedDistances are the lengths of a fixed block's distance codes.
func FixedDistances() []int {
	lengths := make([]int, 32)
	for i := range lengths {
		lengths[i] = 5
	}
	return lengths
}
