package page

import (
	"bytes"

	"codicil/api"
)

const (
	metaMark  = "CMET"
	firstPage = 2 // those below it have the states themselves
)

// PutMeta is a state as a sector.
func PutMeta(m api.Meta) ([]byte, api.Errno) {
	if !mayBe(m) {
		return nil, api.ErrPageForm
	}
	w := newWriter(api.Sector)
	w.raw([]byte(metaMark))
	w.number(m.Generation, 8)
	w.number(uint64(m.Root), 4)
	w.number(uint64(m.Free), 4)
	w.number(uint64(m.Pages), 4)
	w.number(m.Keys, 8)
	return w.sealed(), api.OK
}

// GetMeta is the state that a sector has.
func GetMeta(b []byte) (api.Meta, api.Errno) {
	return read(b[:min(len(b), api.Sector)], (*reader).meta)
}

// Best is the state that counts, of the two first pages.
func Best(a, b []byte) (api.Meta, api.Errno) {
	if !beginsAsMeta(a) && !beginsAsMeta(b) {
		return api.Meta{}, api.ErrCommitNone
	}
	best := newer(standing(a, 0), standing(b, 1))
	if best == (api.Meta{}) {
		return api.Meta{}, api.ErrCommitCorrupt
	}
	return best, api.OK
}

func mayBe(m api.Meta) bool {
	return m.Generation >= 1 && m.Generation <= api.MaxCount &&
		m.Pages >= firstPage && m.Pages <= api.MaxPages &&
		mayStand(m.Root, m.Pages) && mayStand(m.Free, m.Pages) &&
		(m.Root != m.Free || m.Root == 0) &&
		m.Keys <= api.MaxCount && (m.Keys == 0) == (m.Root == 0)
}

// mayStand says whether a state of so many pages may have its tree, or its list, at that one.
func mayStand(number, pages uint32) bool {
	return number == 0 || number >= firstPage && number < pages
}

func (r *reader) meta() api.Meta {
	r.unseal(api.Sector)
	r.mark(metaMark)
	var m api.Meta
	m.Generation = r.number(8)
	m.Root = uint32(r.number(4))
	m.Free = uint32(r.number(4))
	m.Pages = uint32(r.number(4))
	m.Keys = r.number(8)
	r.noughts(len(r.rest))
	r.must(mayBe(m))
	return m
}

func beginsAsMeta(b []byte) bool { return bytes.HasPrefix(b, []byte(metaMark)) }

// standing is the state that a page has. It is noughts, which no state is, without one, and with one that belongs into the other page.
func standing(b []byte, parity uint64) api.Meta {
	m, err := GetMeta(b)
	if err != api.OK || m.Generation%2 != parity {
		return api.Meta{}
	}
	return m
}

func newer(a, b api.Meta) api.Meta {
	if a.Generation > b.Generation {
		return a
	}
	return b
}
