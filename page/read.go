package page

import (
	"codicil/api"
	"codicil/crc"
)

// sumLength is how many bytes the checksum has, the last ones of a page and of a state.
const sumLength = 4

// fault is what a reader gives up with. It has a type of its own, so that it is not taken for what others panic with.
type fault struct{}

// read is the reader's face: behind it the first thing that is not as it must be ends all.
func read[T any](b []byte, form func(*reader) T) (got T, err api.Errno) {
	defer func() {
		given := recover()
		if given == nil {
			return
		}
		if _, own := given.(fault); !own {
			panic(given)
		}
		err = api.ErrPageForm
	}()
	return form(&reader{rest: b}), api.OK
}

type reader struct {
	rest []byte
}

func (r *reader) must(holds bool) {
	if !holds {
		panic(fault{})
	}
}

func (r *reader) take(length int) []byte {
	r.must(length <= len(r.rest))
	taken := r.rest[:length]
	r.rest = r.rest[length:]
	return taken
}

func (r *reader) number(length int) uint64 {
	var n uint64
	for at, c := range r.take(length) {
		n |= uint64(c) << (8 * at)
	}
	return n
}

func (r *reader) mark(want string) {
	r.must(string(r.take(len(want))) == want)
}

func (r *reader) noughts(length int) {
	for _, c := range r.take(length) {
		r.must(c == 0)
	}
}

// unseal looks at the length of all and at the checksum, and leaves what stands ahead of that.
func (r *reader) unseal(size int) {
	r.must(len(r.rest) == size)
	body := r.take(size - sumLength)
	r.must(r.number(sumLength) == uint64(crc.Sum(body)))
	r.rest = body
}
