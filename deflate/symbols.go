package deflate

import "spool/codes"

// pair: the codes of a block.
type pair struct {
	literals, distances code
}

func fixedStream(tokens []token) []byte {
	o := begin(fixed)
	o.tokens(tokens, pair{codeOf(codes.FixedLiterals()), codeOf(codes.FixedDistances())})
	return o.bytes
}

func (o *output) tokens(tokens []token, p pair) {
	for _, t := range tokens {
		if t.length == 0 {
			o.symbol(p.literals, int(t.literal))
			continue
		}
		symbol, rest, more := codes.OfLength(t.length)
		o.symbol(p.literals, symbol)
		o.number(rest, more)
		symbol, rest, more = codes.OfDistance(t.distance)
		o.symbol(p.distances, symbol)
		o.number(rest, more)
	}
	o.symbol(p.literals, codes.End)
}

// counts tells how often each symbol comes.
func counts(tokens []token) (literals, distances []int) {
	literals, distances = make([]int, codes.Literals), make([]int, codes.Distances)
	for _, t := range tokens {
		if t.length == 0 {
			literals[t.literal]++
			continue
		}
		symbol, _, _ := codes.OfLength(t.length)
		literals[symbol]++
		symbol, _, _ = codes.OfDistance(t.distance)
		distances[symbol]++
	}
	literals[codes.End] = 1
	return literals, distances
}
