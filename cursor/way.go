package cursor

import (
	"bytes"

	"codicil/api"
	"codicil/node"
)

// way says with which entry of a node to begin, and how far it is from each to the next one. What it says of a page beside the one with its key is right, too: all its keys are above, or all below.
type way func(n api.Node) (at, step int)

// upFrom rises from a key on, with it or without.
func upFrom(key []byte, in bool) way {
	return func(n api.Node) (int, int) {
		at, is := node.Find(n, key)
		if n.Leaf && is && !in {
			at++
		}
		return at, 1
	}
}

// downFrom falls from a key on, with it or without.
func downFrom(key []byte, in bool) way {
	return func(n api.Node) (int, int) {
		at, is := node.Find(n, key)
		if n.Leaf && !(is && in) {
			at--
		}
		return at, -1
	}
}

// downFromEnd falls from the last key on.
func downFromEnd() way {
	return func(n api.Node) (int, int) { return len(n.Entries) - 1, -1 }
}

// bounds are those of a page's keys: from low on, and below high. Both may be empty, which binds nothing.
type bounds struct {
	low, high []byte
}

// hold looks at the first key and the last one alone, as keys rise. The first one of a branch is no key.
func (b bounds) hold(n api.Node) bool {
	l := n.Entries
	if !n.Leaf {
		l = l[1:]
	}
	if len(l) == 0 {
		return true
	}
	return bytes.Compare(l[0].Key, b.low) >= 0 && (len(b.high) == 0 || bytes.Compare(l[len(l)-1].Key, b.high) < 0)
}

func (b bounds) ofKid(n api.Node, at int) bounds {
	if at > 0 {
		b.low = n.Entries[at].Key
	}
	if at+1 < len(n.Entries) {
		b.high = n.Entries[at+1].Key
	}
	return b
}
