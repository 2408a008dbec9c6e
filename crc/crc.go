// Package crc is layer 1: see shared/doc/01-crc.md.
package crc

// polynomial is CRC-32C's with its bits mirrored, since the lowest bit goes first.
const polynomial uint32 = 0x82f63b78

// Sum is the checksum of bytes.
func Sum(b []byte) uint32 { return More(0, b) }

// More is that of bytes whose checksum is sum, and b behind them.
func More(sum uint32, b []byte) uint32 {
	halves := halfBytes()
	rest := ^sum
	for _, c := range b {
		rest ^= uint32(c)
		rest = rest>>4 ^ halves[rest&15]
		rest = rest>>4 ^ halves[rest&15]
	}
	return ^rest
}

// halfBytes is made anew for each call, so that there is no table that somebody could change for others.
func halfBytes() [16]uint32 {
	var halves [16]uint32
	for half := range halves {
		rest := uint32(half)
		for range 4 {
			rest = shifted(rest)
		}
		halves[half] = rest
	}
	return halves
}

func shifted(rest uint32) uint32 {
	if rest&1 == 1 {
		return rest>>1 ^ polynomial
	}
	return rest >> 1
}
