package key

import (
	"unicode/utf8"

	"codicil/api"
	"codicil/value"
)

// longest is how many bytes a text or bytes may have; more are not read, however many there are.
const longest = max(api.MaxBytes, utf8.UTFMax*api.MaxText)

// reader reads one value's bytes. It stops where a value would have too many parts, or too long ones, so that it goes no deeper and takes no more memory than that; all else that is wrong with a value, value.Check tells behind it.
type reader struct {
	bytes  []byte
	at     int
	parts  int
	turned func(c byte) byte
}

// first is the value that b begins with, and how many bytes it has there; false: there is none that may be keyed.
func first(b []byte, down bool) (api.Value, int, bool) {
	r := reader{bytes: b, turned: turning(down)}
	mark, ok := r.next()
	if !ok {
		return api.Value{}, 0, false
	}
	v, ok := r.value(mark)
	if !ok || value.Check(v) != api.OK {
		return api.Value{}, 0, false
	}
	return v, r.at, true
}

// next goes on behind a byte; false: there is none.
func (r *reader) next() (byte, bool) {
	if r.at == len(r.bytes) {
		return 0, false
	}
	r.at++
	return r.turned(r.bytes[r.at-1]), true
}

// value is the one that mark begins; mark has been read, since a list looks whether it is its end.
func (r *reader) value(mark byte) (api.Value, bool) {
	r.parts++
	if r.parts > api.MaxParts {
		return api.Value{}, false
	}
	switch mark {
	case markNull:
		return api.Value{Kind: api.KindNull}, true
	case markFalse, markTrue:
		return api.Value{Kind: api.KindBool, Bool: mark == markTrue}, true
	case markInt:
		n, ok := r.number()
		return api.Value{Kind: api.KindInt, Int: n}, ok
	case markText:
		content, ok := r.content()
		return api.Value{Kind: api.KindText, Text: string(content)}, ok
	case markBytes:
		content, ok := r.content()
		return api.Value{Kind: api.KindBytes, Bytes: content}, ok
	case markList:
		list, ok := r.list()
		return api.Value{Kind: api.KindList, List: list}, ok
	}
	return api.Value{}, false
}

func (r *reader) number() (int64, bool) {
	var bits uint64
	for range wordBits / byteBits {
		c, ok := r.next()
		if !ok {
			return 0, false
		}
		bits = bits<<byteBits | uint64(c)
	}
	return int64(bits ^ signBit), true
}

// content is what a text or bytes have, up to what ends them.
func (r *reader) content() ([]byte, bool) {
	var out []byte
	for len(out) <= longest {
		c, ok := r.next()
		if !ok {
			return nil, false
		}
		if c == nought {
			sign, ok := r.next()
			if ok && sign == textEnd {
				return out, true
			}
			if !ok || sign != kept {
				return nil, false
			}
		}
		out = append(out, c)
	}
	return nil, false
}

// list is a list's values, up to what ends them.
func (r *reader) list() ([]api.Value, bool) {
	var out []api.Value
	for {
		mark, ok := r.next()
		if !ok {
			return nil, false
		}
		if mark == listEnd {
			return out, true
		}
		part, ok := r.value(mark)
		if !ok {
			return nil, false
		}
		out = append(out, part)
	}
}
