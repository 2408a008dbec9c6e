package key

import "codicil/api"

// The first byte of a value's bytes. Kinds compare by it, so that it rises as they do.
const (
	markNull  = 0x10
	markFalse = 0x20
	markTrue  = 0x21
	markInt   = 0x30
	markText  = 0x40
	markBytes = 0x50
	markList  = 0x60
)

// A text's (and bytes') nought is followed by a byte that says whether it is one of its own, or ends it. What ends it is below all that may go on, so that the shorter one is first; so is a list's end below all marks.
const (
	nought  = 0x00
	kept    = 0xff
	textEnd = 0x01
	listEnd = 0x01
)

const (
	wordBits = 64
	byteBits = 8
	// signBit, turned over, puts the numbers below 0 ahead of the others; it is 2^63.
	signBit = 1 << (wordBits - 1)
)

// turning is what each byte of a value passes through, as it is written and as it is read: turned over, if the value falls.
func turning(down bool) func(c byte) byte {
	var mask byte
	if down {
		mask = 0xff
	}
	return func(c byte) byte { return c ^ mask }
}

// write puts the bytes of v, which may be keyed.
func write(v api.Value, put func(c byte)) {
	mark, content := byte(markBytes), v.Bytes
	switch v.Kind {
	case api.KindNull:
		put(markNull)
	case api.KindBool:
		put(truthMark(v.Bool))
	case api.KindInt:
		put(markInt)
		writeNumber(v.Int, put)
	case api.KindText:
		mark, content = markText, []byte(v.Text)
		fallthrough
	case api.KindBytes:
		put(mark)
		writeContent(content, put)
	case api.KindList:
		put(markList)
		for _, part := range v.List {
			write(part, put)
		}
		put(listEnd)
	}
}

func truthMark(b bool) byte {
	if b {
		return markTrue
	}
	return markFalse
}

func writeNumber(n int64, put func(c byte)) {
	bits := uint64(n) ^ signBit
	for shift := wordBits - byteBits; shift >= 0; shift -= byteBits {
		put(byte(bits >> shift))
	}
}

func writeContent(content []byte, put func(c byte)) {
	for _, c := range content {
		put(c)
		if c == nought {
			put(kept)
		}
	}
	put(nought)
	put(textEnd)
}
