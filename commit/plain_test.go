package commit_test

import (
	"encoding/binary"
	"slices"

	"codicil/api"
	"codicil/free"
	"codicil/node"
	"codicil/page"
)

// file is what a file's bytes say of the state that counts.
type file struct {
	meta       api.Meta
	tree, list []uint32
	free       []uint32
	pairs      map[string]string
}

// all are the pages of the state, without those that are free.
func (f file) all() []uint32 { return append(slices.Clone(f.tree), f.list...) }

// plainFile reads a file by the chapter's words, from its bytes alone.
func plainFile(image []byte) (file, api.Errno) {
	if len(image) < 2*api.PageSize {
		return file{}, api.ErrCommitNone
	}
	meta, err := page.Best(image[:api.PageSize], image[api.PageSize:2*api.PageSize])
	if err != api.OK {
		return file{}, err
	}
	r := &plainReader{image: image, file: file{meta: meta, pairs: map[string]string{}}, used: map[uint32]int{}, leaves: -1}
	if int(meta.Pages) > len(image)/api.PageSize || !r.tree(meta.Root) || !r.list(meta.Free) || !r.eachOnce() {
		return file{}, api.ErrCommitCorrupt
	}
	slices.Sort(r.file.tree)
	return r.file, api.OK
}

type plainReader struct {
	image  []byte
	file   file
	used   map[uint32]int
	leaves int // how far below the root they are
}

func (r *plainReader) page(number uint32) (uint8, []byte, bool) {
	if int(number) >= len(r.image)/api.PageSize {
		return 0, nil, false
	}
	kind, payload, err := page.Open(number, r.image[int(number)*api.PageSize:][:api.PageSize])
	return kind, payload, err == api.OK
}

func (r *plainReader) tree(root uint32) bool {
	return (root == 0 || r.below(root, 0, nil)) && uint64(len(r.file.pairs)) == r.file.meta.Keys
}

// below goes through a page of the tree whose keys are between all these bounds.
func (r *plainReader) below(number uint32, far int, bounds []func(string) bool) bool {
	r.used[number]++
	r.file.tree = append(r.file.tree, number)
	kind, payload, ok := r.page(number)
	if !ok || far > 16 || r.used[number] > 1 {
		return false
	}
	n, err := node.Decode(kind, payload)
	if err != api.OK {
		return false
	}
	for at, e := range n.Entries {
		for _, holds := range bounds {
			if (n.Leaf || at > 0) && !holds(string(e.Key)) {
				return false
			}
		}
		if n.Leaf && !r.entry(e, far) || !n.Leaf && !r.below(e.Page, far+1, slices.Concat(bounds, boundsOf(n, at))) {
			return false
		}
	}
	return true
}

func boundsOf(n api.Node, at int) []func(string) bool {
	var out []func(string) bool
	if at > 0 {
		out = append(out, func(key string) bool { return key >= string(n.Entries[at].Key) })
	}
	if at+1 < len(n.Entries) {
		out = append(out, func(key string) bool { return key < string(n.Entries[at+1].Key) })
	}
	return out
}

func (r *plainReader) entry(e api.Entry, far int) bool {
	if r.leaves < 0 {
		r.leaves = far
	}
	value := e.Value
	for number := e.Page; len(value) < int(e.Size); {
		r.used[number]++
		r.file.tree = append(r.file.tree, number)
		kind, payload, ok := r.page(number)
		part := min(1004, int(e.Size)-len(value))
		if !ok || kind != page.Over || len(payload) != 4+part {
			return false
		}
		value = append(value, payload[4:]...)
		number = binary.LittleEndian.Uint32(payload)
		if isLast := len(value) == int(e.Size); isLast && number != 0 || !isLast && (number < 2 || number >= api.MaxPages) {
			return false
		}
	}
	r.file.pairs[string(e.Key)] = string(value)
	return r.leaves == far
}

func (r *plainReader) list(first uint32) bool {
	for number := first; number != 0; {
		kind, payload, ok := r.page(number)
		next, part, err := free.Decode(payload)
		if !ok || kind != page.Free || err != api.OK || slices.Contains(r.file.list, number) {
			return false
		}
		r.used[number]++
		r.file.list = append(r.file.list, number)
		for _, each := range part {
			r.used[each]++
			if slices.ContainsFunc(r.file.free, func(ahead uint32) bool { return ahead >= each }) {
				return false
			}
			r.file.free = append(r.file.free, each)
		}
		number = next
	}
	return true
}

// eachOnce says whether each page of the file is used once, and none beyond it.
func (r *plainReader) eachOnce() bool {
	for number := uint32(2); number < r.file.meta.Pages; number++ {
		if r.used[number] != 1 {
			return false
		}
	}
	return len(r.used) == int(r.file.meta.Pages)-2
}
