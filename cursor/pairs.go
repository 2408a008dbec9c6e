package cursor

import (
	"iter"

	"codicil/api"
	"codicil/node"
	"codicil/over"
	"codicil/pool"
)

// height is how many pages below the root leaves may be.
const height = 16

// found are pairs, each read when it is asked for. An error is the last that is told.
type found = iter.Seq2[api.Pair, api.Errno]

// pairs are all of a tree that a way meets, in its order.
func pairs(p *pool.Pool, root uint32, w way) found {
	if root == 0 {
		return func(func(api.Pair, api.Errno) bool) {}
	}
	return traveller{p, w}.below(spot{number: root})
}

// traveller goes through the pages of a tree by a way.
type traveller struct {
	pool *pool.Pool
	way  way
}

// spot is a page of a tree: how far below the root it is, and the bounds of its keys.
type spot struct {
	number uint32
	far    int
	bounds bounds
}

// kid is where an entry of a branch leads.
func (s spot) kid(n api.Node, at int) spot {
	return spot{n.Entries[at].Page, s.far + 1, s.bounds.ofKid(n, at)}
}

// below are the pairs of a page and of all below it. As each leaf has a key, and keys keep to their bounds, no more than one leaf has none that the way meets: whatever pages lead to, the first pair, or an error, comes behind two ways down.
func (t traveller) below(s spot) found {
	return func(yield func(api.Pair, api.Errno) bool) {
		n, err := t.node(s)
		if err != api.OK {
			yield(api.Pair{}, err)
			return
		}
		for at, step := t.way(n); at >= 0 && at < len(n.Entries); at += step {
			for pair, err := range t.entry(s, n, at) {
				if !yield(pair, err) || err != api.OK {
					return
				}
			}
		}
	}
}

// entry are the pairs of an entry: in a leaf its own.
func (t traveller) entry(s spot, n api.Node, at int) found {
	if !n.Leaf {
		return t.below(s.kid(n, at))
	}
	return func(yield func(api.Pair, api.Errno) bool) {
		yield(t.pair(n.Entries[at]))
	}
}

func (t traveller) node(s spot) (api.Node, api.Errno) {
	if s.far > height {
		return api.Node{}, api.ErrTreeForm
	}
	kind, payload, err := t.pool.Read(s.number)
	if err != api.OK {
		return api.Node{}, err
	}
	n, err := node.Decode(kind, payload)
	if err != api.OK || !s.bounds.hold(n) {
		return api.Node{}, api.ErrTreeForm
	}
	return n, api.OK
}

func (t traveller) pair(e api.Entry) (api.Pair, api.Errno) {
	if e.Page == 0 {
		return api.Pair{Key: e.Key, Value: e.Value}, api.OK
	}
	value, _, err := over.Read(t.pool, e.Page, e.Size)
	if err == api.ErrOverForm {
		err = api.ErrTreeForm
	}
	if err != api.OK {
		return api.Pair{}, err
	}
	return api.Pair{Key: e.Key, Value: value}, api.OK
}
