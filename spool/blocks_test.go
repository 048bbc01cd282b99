package spool_test

import (
	"fmt"
	"math/rand"
	"slices"
)

// dynamicWords writes a last block of kind 2 with codes of any shape, now and then with a fault in its lengths.
func dynamicWords(random *rand.Rand) string {
	literals, distances := 257+random.Intn(30), 1+random.Intn(30)
	row := anyLengths(random, literals, []int{256}, random.Intn(12), 15)
	row = append(row, anyLengths(random, distances, nil, random.Intn(8), 15)...)
	if random.Intn(4) == 0 {
		row[random.Intn(len(row))] = random.Intn(16)
	}
	symbols, numbers := rowSymbols(random, row)
	lengths := anyLengths(random, 19, symbols, random.Intn(3), 7)
	words := fmt.Sprintf("1:1 2:2 5:%d 5:%d 4:15 ", literals-257, distances-1)
	for _, symbol := range []int{16, 17, 18, 0, 8, 7, 9, 6, 10, 5, 11, 4, 12, 3, 13, 2, 14, 1, 15} {
		words += fmt.Sprintf("3:%d ", lengths[symbol])
	}
	code := wordsOf(lengths)
	for i, symbol := range symbols {
		words += code[symbol] + " " + numbers[i] + " "
	}
	return words + anySymbols(random, wordsOf(row[:literals]), wordsOf(row[literals:]))
}

// anyLengths gives good lengths to these symbols and to some more (none at all, if there are none).
func anyLengths(random *rand.Rand, size int, symbols []int, more int, longest int) []int {
	chosen := slices.Clone(symbols)
	for range more {
		chosen = append(chosen, random.Intn(size))
	}
	slices.Sort(chosen)
	chosen = slices.Compact(chosen)
	lengths := make([]int, size)
	leaves := []int{0}
	if len(chosen) == 1 {
		leaves[0] = 1
	}
	for len(leaves) < len(chosen) {
		if i := random.Intn(len(leaves)); leaves[i] < longest {
			leaves[i]++
			leaves = append(leaves, leaves[i])
		}
	}
	for i, symbol := range chosen {
		lengths[symbol] = leaves[i]
	}
	return lengths
}

// rowSymbols tells a row by symbols, and the numbers behind them, by one of the many ways.
func rowSymbols(random *rand.Rand, row []int) (symbols []int, numbers []string) {
	for at := 0; at < len(row); {
		run := 1
		for at+run < len(row) && row[at+run] == row[at] {
			run++
		}
		symbol, number, size := row[at], "", 1
		switch {
		case random.Intn(8) == 0:
		case at > 0 && row[at-1] == row[at] && run >= 3:
			size = 3 + random.Intn(min(run, 6)-2)
			symbol, number = 16, fmt.Sprintf("2:%d", size-3)
		case row[at] == 0 && run >= 11:
			size = 11 + random.Intn(min(run, 138)-10)
			symbol, number = 18, fmt.Sprintf("7:%d", size-11)
		case row[at] == 0 && run >= 3:
			size = 3 + random.Intn(min(run, 10)-2)
			symbol, number = 17, fmt.Sprintf("3:%d", size-3)
		}
		symbols, numbers = append(symbols, symbol), append(numbers, number)
		at += size
	}
	return symbols, numbers
}

// wordsOf: the code of each symbol that has one.
func wordsOf(lengths []int) map[int]string {
	words := map[int]string{}
	for word, symbol := range modelCode(lengths) {
		if symbol >= 0 {
			words[symbol] = word
		}
	}
	return words
}

// anySymbols writes some of the symbols that there are, and in the end 256.
func anySymbols(random *rand.Rand, literals, distances map[int]string) string {
	_, lengthBits := ladder(3, 8, 4, 5)
	_, distanceBits := ladder(1, 4, 2, 13)
	words := ""
	for range random.Intn(40) {
		symbol, word := pick(random, literals)
		if symbol != 256 {
			words += word + " "
		}
		if symbol <= 256 {
			continue
		}
		words += anyBits(random, append(lengthBits, 0)[symbol-257])
		d, word := pick(random, distances)
		words += word + " " + anyBits(random, distanceBits[d])
	}
	return words + literals[256]
}

// pick goes by the order of symbols, so that the random source alone decides.
func pick(random *rand.Rand, words map[int]string) (int, string) {
	var symbols []int
	for symbol := range words {
		symbols = append(symbols, symbol)
	}
	if len(symbols) == 0 {
		return 0, "1"
	}
	slices.Sort(symbols)
	symbol := symbols[random.Intn(len(symbols))]
	return symbol, words[symbol]
}

func anyBits(random *rand.Rand, n int) string {
	bits := ""
	for range n { // seldom 1: distances must be small to be possible
		bits += fmt.Sprint(random.Intn(4) / 3)
	}
	return bits + " "
}
