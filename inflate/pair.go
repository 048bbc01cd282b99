package inflate

import (
	"spool/api"
	"spool/codes"
)

// pair: the codes of a block.
type pair struct {
	literals, distances *codes.Code
}

func (r *reader) fixedPair() *pair {
	if r.fixed == nil {
		r.fixed = &pair{codes.Make(codes.FixedLiterals()), codes.Make(codes.FixedDistances())}
	}
	return r.fixed
}

func (r *reader) dynamicPair() *pair {
	literals := r.number(5) + 257
	distances := r.number(5) + 1
	told := r.number(4) + 4
	if literals > codes.Literals || distances > codes.Distances {
		giveUp(api.ErrData)
	}
	row := r.row(r.codeOfLengths(told), literals+distances)
	c := &pair{codes.Make(row[:literals]), codes.Make(row[literals:])}
	if !c.literals.Good() || row[codes.End] == 0 {
		giveUp(api.ErrData)
	}
	if !c.distances.Good() && c.distances.Size() > 0 {
		giveUp(api.ErrData)
	}
	return c
}

func (r *reader) codeOfLengths(told int) *codes.Code {
	lengths := make([]int, codes.OfLengths)
	for i := range told {
		lengths[codes.Ordered(i)] = r.number(3)
	}
	c := codes.Make(lengths)
	if !c.Good() {
		giveUp(api.ErrData)
	}
	return c
}

// row reads lengths of literal and distance codes alike: a symbol that repeats may go over from the ones to the others.
func (r *reader) row(c *codes.Code, size int) []int {
	row := make([]int, 0, size)
	for len(row) < size {
		length, times := r.run(c, row)
		if len(row)+times > size {
			giveUp(api.ErrData)
		}
		for range times {
			row = append(row, length)
		}
	}
	return row
}

// run reads one symbol of a row: a length, and how many times it comes.
func (r *reader) run(c *codes.Code, row []int) (int, int) {
	switch symbol := r.symbol(c); symbol {
	case codes.Again:
		if len(row) == 0 {
			giveUp(api.ErrData)
		}
		return row[len(row)-1], 3 + r.number(2)
	case codes.Zeros:
		return 0, 3 + r.number(3)
	case codes.ManyZeros:
		return 0, 11 + r.number(7)
	default:
		return symbol, 1
	}
}
