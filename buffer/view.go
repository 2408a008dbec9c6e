package buffer

import (
	"bytes"

	"codicil/api"
)

// lower tells what lies below: the first pair behind a place (with in: or at it).
type lower = func(from []byte, in bool) (api.Pair, bool, api.Errno)

// Next is the least key above from (with in: or from itself) of what lies below, as b changes it, with its value.
func Next(b *Buffer, below func(from []byte, in bool) (api.Pair, bool, api.Errno), from []byte, in bool) (api.Pair, bool, api.Errno) {
	return newView(b, below, rising()).first(from, in)
}

// Prev is the greatest key below from (with in: or from itself) of what lies below, as b changes it, with its value; an empty from with in: the last one.
func Prev(b *Buffer, below func(from []byte, in bool) (api.Pair, bool, api.Errno), from []byte, in bool) (api.Pair, bool, api.Errno) {
	return newView(b, below, falling()).first(from, in)
}

// way goes through keys: where in a buffer's list it is first behind a place, and how far it is from there to the next one.
type way struct {
	first func(b *Buffer, from []byte, in bool) int
	step  int
}

func rising() way { return way{(*Buffer).above, 1} }

func falling() way { return way{(*Buffer).under, -1} }

// behind says whether a key is on the way behind a place (with in: or at it). The empty one with in is where each way begins.
func (w way) behind(key, from []byte, in bool) bool {
	c := bytes.Compare(key, from) * w.step
	return c > 0 || in && (c == 0 || len(from) == 0)
}

// view is what lies below, as a buffer changes it.
type view struct {
	buffer *Buffer
	below  lower
	way    way
}

// newView takes no buffer for one in which nothing is said, and no function for one that tells nothing, as a call may not panic.
func newView(b *Buffer, below lower, w way) view {
	if b == nil {
		b = New()
	}
	if below == nil {
		below = func([]byte, bool) (api.Pair, bool, api.Errno) { return api.Pair{}, false, api.OK }
	}
	return view{b, below, w}
}

// first is the pair that is seen first behind a place.
func (v view) first(from []byte, in bool) (api.Pair, bool, api.Errno) {
	for {
		told, is, err := v.ask(from, in)
		if err != api.OK {
			return api.Pair{}, false, err
		}
		if put, said := v.put(from, in, told.Key, is); said {
			return put, true, api.OK
		}
		if !is {
			return api.Pair{}, false, api.OK
		}
		if _, deleted := v.buffer.find(told.Key); !deleted {
			return told, true, api.OK
		}
		from, in = told.Key, false
	}
}

// ask is what lies below first. A key that is not behind the place is none: so each question goes on from the last one, and they end. What is handed over and what is told are copied, as both may be somebody else's.
func (v view) ask(from []byte, in bool) (api.Pair, bool, api.Errno) {
	told, is, err := v.below(bytes.Clone(from), in)
	if err != api.OK || !is || !v.way.behind(told.Key, from, in) {
		return api.Pair{}, false, err
	}
	return api.Pair{Key: bytes.Clone(told.Key), Value: bytes.Clone(told.Value)}, true, api.OK
}

// put is the first one that the buffer says behind a place; if there is a last key, not behind that.
func (v view) put(from []byte, in bool, last []byte, is bool) (api.Pair, bool) {
	l := v.buffer.said
	for at := v.way.first(v.buffer, from, in); at >= 0 && at < len(l); at += v.way.step {
		if is && v.way.behind(l[at].Key, last, false) {
			break
		}
		if !l[at].Delete {
			c := clone(l[at])
			return api.Pair{Key: c.Key, Value: c.Value}, true
		}
	}
	return api.Pair{}, false
}
