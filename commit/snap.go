package commit

import (
	"codicil/api"
	"codicil/cursor"
	"codicil/tree"
)

// Snap is a state that stays.
type Snap struct {
	store   *Store
	meta    api.Meta
	dropped bool
}

// Snap is the newest state, as long as it is not dropped.
func (s *Store) Snap() *Snap {
	n := &Snap{store: s, meta: s.newest.meta}
	s.read[n.Generation()] = reading{s.newest, s.read[n.Generation()].snaps + 1}
	return n
}

// Generation is its number.
func (n *Snap) Generation() uint64 { return n.meta.Generation }

// Keys is how many it has.
func (n *Snap) Keys() int { return int(n.meta.Keys) }

// Get is a key's value, and whether it is there.
func (n *Snap) Get(key []byte) ([]byte, bool, api.Errno) {
	if n.dropped {
		return nil, false, api.ErrEnded
	}
	return tree.Get(n.store.pool, n.meta.Root, key)
}

// Next is the least key above from (with in: or from itself), with its value.
func (n *Snap) Next(from []byte, in bool) (api.Pair, bool, api.Errno) {
	if n.dropped {
		return api.Pair{}, false, api.ErrEnded
	}
	return cursor.Next(n.store.pool, n.meta.Root, from, in)
}

// Prev is the greatest key below from (with in: or from itself); an empty from with in: the last one.
func (n *Snap) Prev(from []byte, in bool) (api.Pair, bool, api.Errno) {
	if n.dropped {
		return api.Pair{}, false, api.ErrEnded
	}
	return cursor.Prev(n.store.pool, n.meta.Root, from, in)
}

// Drop lets it go.
func (n *Snap) Drop() {
	if n.dropped {
		return
	}
	n.dropped = true
	n.store.leave(n.Generation())
}

// leave takes one snapshot away from a state, which is kept no longer than it has one.
func (s *Store) leave(generation uint64) {
	r := s.read[generation]
	r.snaps--
	s.read[generation] = r
	if r.snaps == 0 {
		delete(s.read, generation)
	}
}
