package node

import (
	"bytes"

	"codicil/api"
)

// Halves parts a node in two, and tells the key between.
func Halves(n api.Node) (api.Node, api.Node, []byte) {
	if len(n.Entries) < 2 {
		return clone(n), api.Node{Leaf: n.Leaf}, nil
	}
	at := middle(n)
	a := api.Node{Leaf: n.Leaf, Entries: cloneEntries(n.Entries[:at])}
	b := api.Node{Leaf: n.Leaf, Entries: cloneEntries(n.Entries[at:])}
	if !n.Leaf {
		b.Entries[0].Key = nil
	}
	return a, b, bytes.Clone(n.Entries[at].Key)
}

// Join puts two together that had that key between.
func Join(a, b api.Node, key []byte) api.Node {
	out := clone(a)
	out.Entries = append(out.Entries, cloneEntries(b.Entries)...)
	if !a.Leaf && len(b.Entries) > 0 {
		out.Entries[len(a.Entries)].Key = bytes.Clone(key)
	}
	return out
}

// middle is how many entries the first half has, of two or more.
func middle(n api.Node) int {
	half := (Size(n) - countSize + 1) / 2
	last := len(n.Entries) - 1
	sum := 0
	for at, e := range n.Entries[:last] {
		sum += entrySize(n.Leaf, e)
		if sum >= half {
			return at + 1
		}
	}
	return last
}
