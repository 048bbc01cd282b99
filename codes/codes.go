// Package codes: codes that are made from their lengths, and what a stream's symbols stand for.
package codes

// MaxBits is the greatest length that a stream can give a code.
const MaxBits = 15

// Code finds symbols by their bits. Codes of one length follow each other in the order of their symbols,
// so how many there are of each length tells all of them.
type Code struct {
	counts  [MaxBits + 1]int
	symbols []int // by length, then by symbol
	longest int
}

// Make makes the code of these lengths (0 to MaxBits each; 0: the symbol has none).
func Make(lengths []int) *Code {
	c := &Code{}
	for _, n := range lengths {
		if n > 0 {
			c.counts[n]++
			c.longest = max(c.longest, n)
		}
	}
	c.symbols = sorted(lengths, c.counts)
	return c
}

func sorted(lengths []int, counts [MaxBits + 1]int) []int {
	var next [MaxBits + 1]int
	total := 0
	for n, count := range counts {
		next[n] = total
		total += count
	}
	symbols := make([]int, total)
	for symbol, n := range lengths {
		if n > 0 {
			symbols[next[n]] = symbol
			next[n]++
		}
	}
	return symbols
}

// Size tells how many symbols have a code.
func (c *Code) Size() int { return len(c.symbols) }

// Good tells whether the codes leave no room and take no room twice, or are a single one of one bit.
func (c *Code) Good() bool {
	if c.Size() == 1 && c.longest == 1 {
		return true
	}
	room := 0
	for n, count := range c.counts {
		room += count << (MaxBits - n)
	}
	return room == 1<<MaxBits
}

// Read takes bits until they are a code, and tells its symbol; or false, as soon as no code begins with them.
// The code must be good or empty: then only bits as long as the longest code can lead nowhere.
func (c *Code) Read(bit func() int) (int, bool) {
	word, first, ahead := 0, 0, 0
	for n := 1; ; n++ {
		word = 2*word + bit()
		count := c.counts[n]
		if word < first+count {
			return c.symbols[ahead+word-first], true
		}
		if n >= c.longest {
			return 0, false
		}
		ahead += count
		first = 2 * (first + count)
	}
}
