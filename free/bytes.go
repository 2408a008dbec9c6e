package free

import "codicil/api"

// perPage is how many pages of a list one page of the file tells.
const perPage = 251

// field is how many bytes a page's number takes.
const field = 4

// Need is how many pages a list of so many takes.
func Need(pages int) int {
	if pages <= 0 {
		return 0
	}
	return (pages-1)/perPage + 1
}

// Encode is a list as the bytes of these pages, one behind the other.
func Encode(pages, at []uint32) ([][]byte, api.Errno) {
	need := Need(len(pages))
	if !isList(pages) || !allMayBeFree(at) || len(at) != need && len(at) != need+1 {
		return nil, api.ErrFreeForm
	}
	out := make([][]byte, len(at))
	for i := range at {
		next := uint32(0)
		if i+1 < len(at) {
			next = at[i+1]
		}
		here := pages[:min(perPage, len(pages))]
		pages = pages[len(here):]
		out[i] = payloadOf(next, here)
	}
	return out, api.OK
}

// Decode is what one such page has: which one comes next, and its part of the list.
func Decode(payload []byte) (uint32, []uint32, api.Errno) {
	if len(payload) < field || len(payload) > field+field*perPage || len(payload)%field != 0 {
		return 0, nil, api.ErrFreeForm
	}
	next, rest := getNumber(payload), payload[field:]
	pages := make([]uint32, 0, len(rest)/field)
	for ; len(rest) > 0; rest = rest[field:] {
		pages = append(pages, getNumber(rest))
	}
	if !isList(pages) || next != 0 && !mayBeFree(next) {
		return 0, nil, api.ErrFreeForm
	}
	return next, pages, api.OK
}

func payloadOf(next uint32, pages []uint32) []byte {
	out := putNumber(make([]byte, 0, field+field*len(pages)), next)
	for _, page := range pages {
		out = putNumber(out, page)
	}
	return out
}

func putNumber(b []byte, n uint32) []byte {
	return append(b, byte(n), byte(n>>8), byte(n>>16), byte(n>>24))
}

func getNumber(b []byte) uint32 {
	return uint32(b[0]) | uint32(b[1])<<8 | uint32(b[2])<<16 | uint32(b[3])<<24
}

// isList says whether pages may be told: each may be free, and they rise.
func isList(pages []uint32) bool {
	for i := 1; i < len(pages); i++ {
		if pages[i] <= pages[i-1] {
			return false
		}
	}
	return allMayBeFree(pages)
}

func allMayBeFree(pages []uint32) bool {
	for _, page := range pages {
		if !mayBeFree(page) {
			return false
		}
	}
	return true
}
