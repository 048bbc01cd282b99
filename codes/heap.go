package codes

// node: a symbol, or several that were put together; how often they come in all.
type node struct {
	weight int
	number int
}

// before goes by numbers where weights are equal, so that the same counts always give the same codes.
func (n node) before(other node) bool {
	if n.weight != other.weight {
		return n.weight < other.weight
	}
	return n.number < other.number
}

// heap has its least node at 0; that at i is not behind those at 2i + 1 and 2i + 2.
type heap []node

func (h *heap) push(n node) {
	*h = append(*h, n)
	h.rise(len(*h) - 1)
}

// pop takes the least node out. There must be one.
func (h *heap) pop() node {
	all := *h
	least, last := all[0], len(all)-1
	all[0] = all[last]
	*h = all[:last]
	h.sink(0)
	return least
}

func (h heap) rise(i int) {
	for i > 0 {
		above := (i - 1) / 2
		if !h[i].before(h[above]) {
			return
		}
		h[i], h[above] = h[above], h[i]
		i = above
	}
}

func (h heap) sink(i int) {
	for {
		least := i
		for below := 2*i + 1; below <= 2*i+2 && below < len(h); below++ {
			if h[below].before(h[least]) {
				least = below
			}
		}
		if least == i {
			return
		}
		h[i], h[least] = h[least], h[i]
		i = least
	}
}
