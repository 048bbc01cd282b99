package deflate

import (
	"slices"

	"spool/codes"
)

// The fewest codes that a dynamic block can tell of.
const (
	leastLiterals  = codes.End + 1
	leastDistances = 1
	leastOfLengths = 4
)

func dynamicStream(tokens []token) []byte {
	literalCounts, distanceCounts := counts(tokens)
	literals := cut(codes.Lengths(literalCounts, codes.MaxBits), leastLiterals)
	distances := cut(codes.Lengths(distanceCounts, codes.MaxBits), leastDistances)
	o := begin(dynamic)
	o.number(len(literals)-leastLiterals, 5)
	o.number(len(distances)-leastDistances, 5)
	o.row(slices.Concat(literals, distances))
	o.tokens(tokens, pair{codeOf(literals), codeOf(distances)})
	return o.bytes
}

// cut leaves away the lengths at the end that are 0, but for the least that must be told.
func cut(lengths []int, least int) []int {
	n := len(lengths)
	for n > least && lengths[n-1] == 0 {
		n--
	}
	return lengths[:n]
}

// row writes the codes of lengths, and by them a row of lengths.
func (o *output) row(row []int) {
	all := runs(row)
	often := make([]int, codes.OfLengths)
	for _, r := range all {
		often[r.symbol]++
	}
	c := codeOf(codes.Lengths(often, codes.MaxBitsOfLengths))
	told := cut(ordered(c.lengths), leastOfLengths)
	o.number(len(told)-leastOfLengths, 4)
	for _, n := range told {
		o.number(n, 3)
	}
	for _, r := range all {
		o.symbol(c, r.symbol)
		o.number(r.rest, r.more)
	}
}

func ordered(lengths []int) []int {
	told := make([]int, len(lengths))
	for i := range told {
		told[i] = lengths[codes.Ordered(i)]
	}
	return told
}

// run: a symbol that tells one length of a row or several, and the number behind it.
type run struct {
	symbol, rest, more int
}

func runs(row []int) []run {
	var all []run
	for at := 0; at < len(row); {
		r, told := runAt(row, at)
		all = append(all, r)
		at += told
	}
	return all
}

// runAt tells by one symbol as many lengths from a place on as that can; and how many they are.
func runAt(row []int, at int) (run, int) {
	same := alikeFrom(row, at)
	switch {
	case row[at] == 0 && same >= 11:
		told := min(same, 138)
		return run{codes.ManyZeros, told - 11, 7}, told
	case row[at] == 0 && same >= 3:
		return run{codes.Zeros, same - 3, 3}, same
	case at > 0 && row[at] == row[at-1] && same >= 3:
		told := min(same, 6)
		return run{codes.Again, told - 3, 2}, told
	}
	return run{symbol: row[at]}, 1
}

func alikeFrom(row []int, at int) int {
	n := 1
	for at+n < len(row) && row[at+n] == row[at] {
		n++
	}
	return n
}
