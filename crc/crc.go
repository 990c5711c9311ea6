// Package crc is layer 1: CRC-32C, a sum of bytes that shows accidents. See shared/doc/01-crc.md.
package crc

// turn is what an odd remainder is turned by when it is halved.
const turn = 2197175160

// More (P1.1): the sum of any bytes whose sum is that one, and b behind them.
func More(sum uint32, b []byte) uint32 {
	becomes := table()
	rest := ^sum
	for _, x := range b {
		rest = rest>>8 ^ becomes[byte(rest)^x]
	}
	return ^rest
}

// Sum (P1.1): the sum of the bytes.
func Sum(b []byte) uint32 {
	return More(0, b) // the sum of no bytes is 0
}

// table has of each byte what a remainder of just these 8 bits becomes.
// What two bytes become, turned by one another, is what the byte becomes that is both turned by one another:
// so the bytes of one bit are worked out, and the others are made of them.
func table() [256]uint32 {
	var becomes [256]uint32
	rest := uint32(1)
	for bit := 128; bit > 0; bit /= 2 {
		rest = halve(rest)
		for i := 0; i < 256; i += 2 * bit {
			becomes[i+bit] = becomes[i] ^ rest
		}
	}
	return becomes
}

func halve(rest uint32) uint32 {
	if rest%2 == 1 {
		return rest/2 ^ turn
	}
	return rest / 2
}
