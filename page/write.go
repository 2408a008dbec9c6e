package page

import "codicil/crc"

// writer lays fields down one behind the other, in bytes whose number is known from the beginning.
type writer struct {
	b    []byte
	size int
}

func newWriter(size int) *writer { return &writer{b: make([]byte, 0, size), size: size} }

func (w *writer) raw(b []byte) { w.b = append(w.b, b...) }

func (w *writer) noughts(length int) { w.number(0, length) }

// number lays the lowest byte down first.
func (w *writer) number(n uint64, length int) {
	for range length {
		w.b = append(w.b, byte(n))
		n >>= 8
	}
}

// sealed is all, filled up with noughts, and the checksum behind it.
func (w *writer) sealed() []byte {
	w.noughts(w.size - sumLength - len(w.b))
	w.number(uint64(crc.Sum(w.b)), sumLength)
	return w.b
}
