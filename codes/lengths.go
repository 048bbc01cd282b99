package codes

import "slices"

// Lengths gives good lengths, of at most longest bits, to symbols that come so often: the more often, the shorter.
// A symbol that does not come has none. There must be room for all: no more than 2 to the power of longest may come.
func Lengths(counts []int, longest int) []int {
	weights := slices.Clone(counts)
	for {
		lengths := depths(weights)
		if !slices.ContainsFunc(lengths, func(n int) bool { return n > longest }) {
			return lengths
		}
		flatten(weights)
	}
}

// flatten brings weights nearer to each other. In the end all are 1, which gives the least depth that there can be.
func flatten(weights []int) {
	for i, weight := range weights {
		weights[i] = (weight + 1) / 2
	}
}

// depths puts the two least together, again and again, and tells how deep each symbol then lies.
func depths(weights []int) []int {
	above := tree(weights)
	deep := make([]int, len(above))
	for i := len(above) - 2; i >= 0; i-- { // what a node was put into has a greater number
		if above[i] > 0 {
			deep[i] = deep[above[i]] + 1
		}
	}
	return deep[:len(weights)]
}

// tree tells of each node in which one it was put: symbols are the first nodes, the last one is the root.
// In it are 0 those that were put into none.
func tree(weights []int) []int {
	above := make([]int, len(weights))
	var left heap
	for symbol, weight := range weights {
		if weight > 0 {
			left.push(node{weight, symbol})
		}
	}
	if len(left) == 1 { // alone it would lie at the root, and a code has a bit at least
		above[left[0].number] = len(above)
		return append(above, 0)
	}
	for len(left) > 1 {
		a, b := left.pop(), left.pop()
		above[a.number], above[b.number] = len(above), len(above)
		left.push(node{a.weight + b.weight, len(above)})
		above = append(above, 0)
	}
	return above
}

// Words gives the codes of these lengths, each as a number whose highest bit comes first.
func Words(lengths []int) []int {
	var counts, next [MaxBits + 1]int
	for _, n := range lengths {
		counts[n]++
	}
	counts[0] = 0
	for n := 1; n <= MaxBits; n++ {
		next[n] = 2 * (next[n-1] + counts[n-1])
	}
	words := make([]int, len(lengths))
	for symbol, n := range lengths {
		if n > 0 {
			words[symbol] = next[n]
			next[n]++
		}
	}
	return words
}
