package node

import (
	"bytes"
	"slices"
	"sort"

	"codicil/api"
)

// Find is the place of a key in a leaf, and whether it is there; in a branch the kid below which it stands.
func Find(n api.Node, key []byte) (int, bool) {
	if n.Leaf {
		return place(n.Entries, key)
	}
	above := first(n.Entries, func(k []byte) bool { return bytes.Compare(k, key) > 0 })
	return max(above-1, 0), len(n.Entries) > 0
}

// Put is a node with an entry at its place.
func Put(n api.Node, e api.Entry) api.Node {
	out := clone(n)
	at, there := place(n.Entries, e.Key)
	if there {
		out.Entries[at] = cloneEntry(e)
	} else {
		out.Entries = slices.Insert(out.Entries, at, cloneEntry(e))
	}
	return out
}

// Drop is a node without a key; whether it was there.
func Drop(n api.Node, key []byte) (api.Node, bool) {
	out := clone(n)
	at, there := place(n.Entries, key)
	if there {
		out.Entries = slices.Delete(out.Entries, at, at+1)
	}
	return out, there
}

// place is where an entry of that key stands, or would stand, in a leaf and in a branch alike.
func place(l []api.Entry, key []byte) (int, bool) {
	at := first(l, func(k []byte) bool { return bytes.Compare(k, key) >= 0 })
	return at, at < len(l) && bytes.Equal(l[at].Key, key)
}

// first is the number of the first entry whose key has reached what is looked for, as all behind it have.
func first(l []api.Entry, reached func(key []byte) bool) int {
	return sort.Search(len(l), func(at int) bool { return reached(l[at].Key) })
}

func clone(n api.Node) api.Node {
	return api.Node{Leaf: n.Leaf, Entries: cloneEntries(n.Entries)}
}

func cloneEntries(l []api.Entry) []api.Entry {
	out := make([]api.Entry, 0, len(l))
	for _, e := range l {
		out = append(out, cloneEntry(e))
	}
	return out
}

func cloneEntry(e api.Entry) api.Entry {
	e.Key, e.Value = bytes.Clone(e.Key), bytes.Clone(e.Value)
	return e
}
