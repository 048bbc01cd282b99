// Package sum: the CRC-32 that is known as IEEE 802.3's (P2).
package sum

const divisor = 0xEDB88320

var ofBytes = fill()

func fill() [256]uint32 {
	var table [256]uint32
	for i := range table {
		table[i] = ofByte(uint32(i))
	}
	return table
}

// ofByte takes sum and byte as one number already xored: the rule asks only where their bits differ.
func ofByte(n uint32) uint32 {
	for range 8 {
		differ := n&1 == 1
		n >>= 1
		if differ {
			n ^= divisor
		}
	}
	return n
}

// Of tells the sum of b.
func Of(b []byte) uint32 {
	sum := ^uint32(0)
	for _, c := range b {
		sum = sum>>8 ^ ofBytes[byte(sum)^c]
	}
	return ^sum
}
