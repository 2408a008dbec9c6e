package commit

import (
	"math/bits"

	"codicil/api"
)

// firstPage is the first that a tree or a list may stand on: those below it have the states.
const firstPage = 2

const wordBits = 64

// pageSet is pages of a file, a bit each: as an array it is copied and compared as a whole.
type pageSet [api.MaxPages / wordBits]uint64

func setOf(numbers []uint32) pageSet {
	var out pageSet
	for _, number := range numbers {
		out[number/wordBits] |= 1 << (number % wordBits)
	}
	return out
}

// fileOf are the pages of a file of so many, but for those of the states.
func fileOf(pages int) pageSet {
	var out pageSet
	for number := firstPage; number < pages; number++ {
		out[number/wordBits] |= 1 << (number % wordBits)
	}
	return out
}

func (s pageSet) has(number uint32) bool { return s[number/wordBits]>>(number%wordBits)&1 == 1 }

func (s pageSet) with(others pageSet) pageSet {
	for at, word := range others {
		s[at] |= word
	}
	return s
}

func (s pageSet) without(others pageSet) pageSet {
	for at, word := range others {
		s[at] &^= word
	}
	return s
}

func (s pageSet) count() int {
	out := 0
	for _, word := range s {
		out += bits.OnesCount64(word)
	}
	return out
}

// numbers are the pages, rising.
func (s pageSet) numbers() []uint32 {
	var out []uint32
	for at, word := range s {
		for ; word != 0; word &= word - 1 {
			out = append(out, uint32(at*wordBits+bits.TrailingZeros64(word)))
		}
	}
	return out
}
