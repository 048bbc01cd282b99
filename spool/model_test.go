package spool_test

import (
	"fmt"
	"slices"
	"strings"

	"spool/api"
)

// model reads a stream as the document tells it, word by word and slowly: all bits lie in one text, a code is a text,
// and an error is kept instead of being thrown. Nothing of it is the program's.
type model struct {
	bits  string
	at    int
	out   []byte
	limit int
	errno api.Errno
}

var (
	fixedLiterals  = modelCode(slices.Concat(times(8, 144), times(9, 112), times(7, 24), times(8, 8)))
	fixedDistances = modelCode(times(5, 32))
)

func modelInflate(b []byte, limit int) ([]byte, int, api.Errno) {
	if limit < 0 || limit > 60000 {
		return nil, 0, api.ErrArg
	}
	m := modelRead(b, limit)
	if m.errno != api.OK {
		return nil, 0, m.errno
	}
	return m.out, (m.at + 7) / 8, api.OK
}

func modelRead(b []byte, limit int) *model {
	m := &model{bits: bitText(b), limit: limit}
	for last := 0; last == 0 && m.errno == api.OK; {
		last = m.number(1)
		m.block(m.number(2))
	}
	return m
}

func bitText(b []byte) string {
	var text strings.Builder
	for _, c := range b {
		for i := range 8 {
			text.WriteByte('0' + c>>i&1)
		}
	}
	return text.String()
}

// tell keeps the first error that is met.
func (m *model) tell(e api.Errno) {
	if m.errno == api.OK {
		m.errno = e
	}
}

func (m *model) number(n int) int {
	if m.errno != api.OK {
		return 0
	}
	if m.at+n > len(m.bits) {
		m.tell(api.ErrShort)
		return 0
	}
	v := 0
	for i := range n {
		v += int(m.bits[m.at+i]-'0') << i
	}
	m.at += n
	return v
}

func (m *model) symbol(code map[string]int) int {
	for word := ""; m.errno == api.OK; {
		if m.at == len(m.bits) {
			m.tell(api.ErrShort)
			break
		}
		word += m.bits[m.at : m.at+1]
		m.at++
		symbol, known := code[word]
		if !known {
			m.tell(api.ErrData)
		} else if symbol >= 0 {
			return symbol
		}
	}
	return 0
}

func (m *model) put(c byte) {
	if len(m.out) == m.limit {
		m.tell(api.ErrLimit)
	}
	if m.errno == api.OK {
		m.out = append(m.out, c)
	}
}

func (m *model) block(kind int) {
	switch {
	case m.errno != api.OK:
	case kind == 0:
		m.stored()
	case kind == 1:
		m.symbols(fixedLiterals, fixedDistances)
	case kind == 2:
		m.dynamic()
	default:
		m.tell(api.ErrData)
	}
}

func (m *model) stored() {
	m.at = (m.at + 7) / 8 * 8
	if both := m.number(32); both&0xFFFF+both>>16 != 0xFFFF {
		m.tell(api.ErrData)
	} else {
		for i := 0; i < both&0xFFFF && m.errno == api.OK; i++ {
			m.put(byte(m.number(8)))
		}
	}
}

func (m *model) dynamic() {
	literals, distances, told := m.number(5)+257, m.number(5)+1, m.number(4)+4
	if literals > 286 || distances > 30 {
		m.tell(api.ErrData)
	}
	lengths := times(0, 19)
	for _, symbol := range []int{16, 17, 18, 0, 8, 7, 9, 6, 10, 5, 11, 4, 12, 3, 13, 2, 14, 1, 15}[:told] {
		lengths[symbol] = m.number(3)
	}
	if !modelGood(lengths) {
		m.tell(api.ErrData)
	}
	code := modelCode(lengths)
	var row []int
	for len(row) < literals+distances && m.errno == api.OK {
		row = append(row, m.run(code, row)...)
		if len(row) > literals+distances {
			m.tell(api.ErrData)
		}
	}
	if m.errno != api.OK {
		return
	}
	if !modelGood(row[:literals]) || row[256] == 0 {
		m.tell(api.ErrData)
	}
	if none := len(modelCode(row[literals:])) == 0; !none && !modelGood(row[literals:]) {
		m.tell(api.ErrData)
	}
	if m.errno == api.OK {
		m.symbols(modelCode(row[:literals]), modelCode(row[literals:]))
	}
}

func (m *model) run(code map[string]int, row []int) []int {
	symbol := m.symbol(code)
	switch {
	case symbol < 16:
		return []int{symbol}
	case symbol == 17:
		return times(0, 3+m.number(3))
	case symbol == 18:
		return times(0, 11+m.number(7))
	case len(row) == 0:
		m.tell(api.ErrData)
		return nil
	}
	return times(row[len(row)-1], 3+m.number(2))
}

func (m *model) symbols(literals, distances map[string]int) {
	lengthStart, lengthBits := ladder(3, 8, 4, 5)
	distanceStart, distanceBits := ladder(1, 4, 2, 13)
	lengthStart, lengthBits = append(lengthStart, 258), append(lengthBits, 0)
	for m.errno == api.OK {
		symbol := m.symbol(literals)
		switch {
		case m.errno != api.OK:
		case symbol < 256:
			m.put(byte(symbol))
		case symbol == 256:
			return
		case symbol > 285:
			m.tell(api.ErrData)
		default:
			length := lengthStart[symbol-257] + m.number(lengthBits[symbol-257])
			d := m.symbol(distances)
			if d > 29 {
				m.tell(api.ErrData)
				return
			}
			distance := distanceStart[d] + m.number(distanceBits[d])
			if distance > len(m.out) {
				m.tell(api.ErrData)
			}
			for i := 0; i < length && m.errno == api.OK; i++ {
				m.put(m.out[len(m.out)-distance])
			}
		}
	}
}

// ladder: where each symbol starts and how many bits more it has: some without, then so many each with 1, 2, .. most.
func ladder(start, without, each, most int) (starts, bits []int) {
	for range without {
		starts, bits = append(starts, start), append(bits, 0)
		start++
	}
	for more := 1; more <= most; more++ {
		for range each {
			starts, bits = append(starts, start), append(bits, more)
			start += 1 << more
		}
	}
	return starts, bits
}

// modelCode has the codes with their symbols, and with -1 what codes begin with.
func modelCode(lengths []int) map[string]int {
	code := map[string]int{}
	next := 0
	for n := 1; n <= 15; n++ {
		next *= 2
		for symbol, length := range lengths {
			if length != n {
				continue
			}
			word := fmt.Sprintf("%0*b", n, next)
			code[word] = symbol
			for i := 1; i < n; i++ {
				code[word[:i]] = -1
			}
			next++
		}
	}
	return code
}

func modelGood(lengths []int) bool {
	sum, count, longest := 0.0, 0, 0
	for _, n := range lengths {
		if n > 0 {
			sum += 1 / float64(int(1)<<n)
			count++
			longest = max(longest, n)
		}
	}
	return sum == 1 || count == 1 && longest == 1
}

func times(v, n int) []int {
	row := make([]int, n)
	for i := range row {
		row[i] = v
	}
	return row
}
