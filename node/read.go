package node

import (
	"bytes"

	"codicil/api"
)

// Kinds of pages that are nodes, as layer 8 numbers them.
const (
	leafKind   = 1
	branchKind = 2
)

// Decode is the node that a page of that kind has.
func Decode(kind uint8, payload []byte) (api.Node, api.Errno) {
	return read(payload, func(r *reader) api.Node { return r.node(kind) })
}

// fault is what a reader gives up with. It has a type of its own, so that it is not taken for what others panic with.
type fault struct{}

// read is the reader's face: behind it the first thing that is not as it must be ends all.
func read(b []byte, form func(*reader) api.Node) (n api.Node, err api.Errno) {
	defer func() {
		given := recover()
		if given == nil {
			return
		}
		if _, own := given.(fault); !own {
			panic(given)
		}
		err = api.ErrNodeForm
	}()
	return form(&reader{rest: b}), api.OK
}

type reader struct {
	rest []byte
}

func (r *reader) must(holds bool) {
	if !holds {
		panic(fault{})
	}
}

func (r *reader) take(length uint32) []byte {
	r.must(uint64(length) <= uint64(len(r.rest)))
	taken := r.rest[:length]
	r.rest = r.rest[length:]
	return taken
}

func (r *reader) number(length uint32) uint32 {
	var n uint32
	for at, c := range r.take(length) {
		n |= uint32(c) << (8 * at)
	}
	return n
}

// node leaves to Check what is no node, so that just those are read that are written.
func (r *reader) node(kind uint8) api.Node {
	r.must(kind == leafKind || kind == branchKind)
	n := api.Node{Leaf: kind == leafKind}
	for range r.number(countSize) {
		n.Entries = append(n.Entries, r.entry(n.Leaf))
	}
	r.must(len(r.rest) == 0)
	r.must(Check(n) == api.OK)
	return n
}

func (r *reader) entry(leaf bool) api.Entry {
	e := api.Entry{Key: bytes.Clone(r.take(r.number(1)))}
	if leaf {
		r.value(&e)
	} else {
		e.Page = r.number(4)
	}
	return e
}

// value looks itself whether a great one is great: with noughts it would else be taken for a small one without bytes.
func (r *reader) value(e *api.Entry) {
	length := r.number(1)
	if length != greatMark {
		e.Value = bytes.Clone(r.take(length))
		return
	}
	e.Size = r.number(4)
	e.Page = r.number(4)
	r.must(isGreat(*e))
}
