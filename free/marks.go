package free

import (
	"math/bits"

	"codicil/api"
)

// marks say which pages are in a list, a bit each: as an array they are copied with it, and tell the pages in their order.
type marks [api.MaxPages / 64]uint64

func (m *marks) has(page uint32) bool { return m[page/64]>>(page%64)&1 == 1 }

func (m *marks) set(page uint32) { m[page/64] |= 1 << (page % 64) }

func (m *marks) unset(page uint32) { m[page/64] &^= 1 << (page % 64) }

// numbers are the pages that are marked, so many.
func (m *marks) numbers(count int) []uint32 {
	out := make([]uint32, 0, count)
	for at, word := range m {
		for ; word != 0; word &= word - 1 {
			out = append(out, uint32(at*64+bits.TrailingZeros64(word)))
		}
	}
	return out
}
