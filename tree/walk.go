package tree

import (
	"bytes"

	"codicil/api"
	"codicil/pool"
)

// walker goes through a tree, from its first key to its last one.
type walker struct {
	pool *pool.Pool
	seen map[uint32]struct{}
	keys int
	far  int // how many pages below the root leaves are; below 0: none was met yet
}

func newWalker(p *pool.Pool) *walker {
	return &walker{pool: p, seen: map[uint32]struct{}{}, far: -1}
}

// node is asked for each page once at most, as see tells one that comes again: so it ends also where pages lead round and round.
func (w *walker) node(number uint32, below int, b bounds) api.Errno {
	if below > height {
		return api.ErrTreeForm
	}
	if err := w.see(number); err != api.OK {
		return err
	}
	n, err := readNode(w.pool, number)
	if err != api.OK {
		return err
	}
	if !b.hold(n) {
		return api.ErrTreeForm
	}
	if n.Leaf {
		return w.leaf(n, below)
	}
	for at, e := range n.Entries {
		if err := w.node(e.Page, below+1, b.ofKid(n, at)); err != api.OK {
			return err
		}
	}
	return api.OK
}

func (w *walker) leaf(n api.Node, below int) api.Errno {
	if w.far < 0 {
		w.far = below
	}
	if w.far != below {
		return api.ErrTreeForm
	}
	w.keys += len(n.Entries)
	for _, e := range n.Entries {
		if err := w.value(e); err != api.OK {
			return err
		}
	}
	return api.OK
}

func (w *walker) value(e api.Entry) api.Errno {
	if e.Page == 0 {
		return api.OK
	}
	_, pages, err := readGreat(w.pool, e)
	if err != api.OK {
		return err
	}
	for _, number := range pages {
		if err := w.see(number); err != api.OK {
			return err
		}
	}
	return api.OK
}

func (w *walker) see(number uint32) api.Errno {
	if _, twice := w.seen[number]; twice {
		return api.ErrTreeForm
	}
	w.seen[number] = struct{}{}
	return api.OK
}

// bounds are those of a page's keys: from low on, and below high. Both may be empty, which binds nothing: no entry but a branch's first one has the empty key.
type bounds struct {
	low, high []byte
}

// hold looks at the first key and the last one alone, as keys rise. The first one of a branch is no key.
func (b bounds) hold(n api.Node) bool {
	l := n.Entries
	if !n.Leaf {
		l = l[1:]
	}
	if len(l) == 0 {
		return true
	}
	return bytes.Compare(l[0].Key, b.low) >= 0 && (len(b.high) == 0 || bytes.Compare(l[len(l)-1].Key, b.high) < 0)
}

func (b bounds) ofKid(n api.Node, at int) bounds {
	if at > 0 {
		b.low = n.Entries[at].Key
	}
	if at+1 < len(n.Entries) {
		b.high = n.Entries[at+1].Key
	}
	return b
}
