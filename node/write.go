package node

import "codicil/api"

// greatMark stands where a small value has its length, which is never so great.
const greatMark = 0xff

// Encode is a node as a page's bytes.
func Encode(n api.Node) ([]byte, api.Errno) {
	if err := Check(n); err != api.OK {
		return nil, err
	}
	w := &writer{b: make([]byte, 0, Size(n))}
	w.number(uint32(len(n.Entries)), countSize)
	for _, e := range n.Entries {
		w.short(e.Key)
		if n.Leaf {
			w.value(e)
		} else {
			w.number(e.Page, 4)
		}
	}
	return w.b, api.OK
}

type writer struct {
	b []byte
}

// number lays the lowest byte down first.
func (w *writer) number(n uint32, length int) {
	for range length {
		w.b = append(w.b, byte(n))
		n >>= 8
	}
}

// short lays bytes down behind their length, which one byte tells.
func (w *writer) short(b []byte) {
	w.number(uint32(len(b)), 1)
	w.b = append(w.b, b...)
}

func (w *writer) value(e api.Entry) {
	if e.Page == 0 {
		w.short(e.Value)
		return
	}
	w.number(greatMark, 1)
	w.number(e.Size, 4)
	w.number(e.Page, 4)
}
