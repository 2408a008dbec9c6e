package over

import (
	"iter"

	"codicil/api"
	"codicil/page"
	"codicil/pool"
)

// field is how many bytes the number of the next page takes, ahead of a page's part of the value.
const field = 4

// link is what a page of a chain has: which page comes next, and its part of the value.
type link struct {
	number, next uint32
	part         []byte
}

// chain is the pages of a value of size bytes, from first on. Each is read only when it is asked for: who leaves at an error, as everybody must, has read nothing behind it. That it ends hangs on size alone, so that it may come back to a page.
func chain(p *pool.Pool, first uint32, size int) iter.Seq2[link, api.Errno] {
	return func(yield func(link, api.Errno) bool) {
		number := first
		for left := size; left > 0; left -= perPage {
			l, err := readLink(p, number, left)
			if !yield(l, err) {
				return
			}
			number = l.next
		}
	}
}

// readLink is a page that is to have the first of the bytes that are left of a value.
func readLink(p *pool.Pool, number uint32, left int) (link, api.Errno) {
	kind, payload, err := p.Read(number)
	if err != api.OK {
		return link{}, err
	}
	if kind != page.Over || len(payload) != field+min(left, perPage) {
		return link{}, api.ErrOverForm
	}
	next := getNumber(payload)
	if !leadsRight(next, left <= perPage) {
		return link{}, api.ErrOverForm
	}
	return link{number, next, payload[field:]}, api.OK
}

// leadsRight says whether Encode could have given a page this next one: the last leads nowhere, each other one to a page that a great value may stand on.
func leadsRight(next uint32, isLast bool) bool {
	if isLast {
		return next == 0
	}
	return !mayNotBe(next)
}

func payloadOf(next uint32, part []byte) []byte {
	return append(putNumber(make([]byte, 0, field+len(part)), next), part...)
}

func putNumber(b []byte, n uint32) []byte {
	return append(b, byte(n), byte(n>>8), byte(n>>16), byte(n>>24))
}

func getNumber(b []byte) uint32 {
	return uint32(b[0]) | uint32(b[1])<<8 | uint32(b[2])<<16 | uint32(b[3])<<24
}
