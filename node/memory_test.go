package node_test

import (
	"bytes"
	"slices"
	"testing"

	"codicil/api"
	"codicil/node"
)

// roomy is a node each of whose lists has room behind it, with things in it that are nobody's business.
func roomy(n api.Node) api.Node {
	out := api.Node{Leaf: n.Leaf}
	for _, e := range n.Entries {
		out.Entries = append(out.Entries, roomyEntry(e))
	}
	for range 5 {
		out.Entries = append(out.Entries, small("room", "room"))
	}
	out.Entries = out.Entries[:len(n.Entries)]
	return out
}

func roomyEntry(e api.Entry) api.Entry {
	e.Key, e.Value = roomyBytes(e.Key), roomyBytes(e.Value)
	return e
}

func roomyBytes(b []byte) []byte {
	return append(bytes.Clone(b), "!!!!!!!!!!!!!!!!"...)[:len(b)]
}

// held is a list of bytes or of entries, with all its room.
type held struct {
	name    string
	bytes   []byte
	entries []api.Entry
}

func holdBytes(name string, b []byte) held { return held{name: name, bytes: b[:cap(b)]} }

// hold are all lists of a node.
func hold(name string, n api.Node) []held {
	out := []held{{name: name, entries: n.Entries[:cap(n.Entries)]}}
	for _, e := range n.Entries {
		out = append(out, holdBytes(name+"'s key", e.Key), holdBytes(name+"'s value", e.Value))
	}
	return out
}

func (h held) clone() held {
	return held{h.name, bytes.Clone(h.bytes), slices.Clone(h.entries)}
}

// same holds entries by where their lists lie and how long they are: their bytes are lists of their own.
func (h held) same(other held) bool {
	return bytes.Equal(h.bytes, other.bytes) && slices.EqualFunc(h.entries, other.entries, func(a, b api.Entry) bool {
		return a.Page == b.Page && a.Size == b.Size && sameList(a.Key, b.Key) && sameList(a.Value, b.Value)
	})
}

func sameList(a, b []byte) bool {
	return len(a) == len(b) && cap(a) == cap(b) && (cap(a) == 0 || &a[:1][0] == &b[:1][0])
}

func (h held) spoil() {
	for at := range h.bytes {
		h.bytes[at] ^= 0x5a
	}
	for at := range h.entries {
		h.entries[at] = api.Entry{Page: ^h.entries[at].Page, Size: 77}
	}
}

// apart looks whether no two lists share memory: each is spoilt in turn, and all others must stay.
func apart(t *testing.T, all ...held) {
	t.Helper()
	for at, one := range all {
		var before []held
		for _, other := range all {
			before = append(before, other.clone())
		}
		one.spoil()
		for k, other := range all {
			if k != at && !other.same(before[k]) {
				t.Errorf("%s shares memory with %s", one.name, other.name)
			}
		}
	}
}

// stays looks whether lists are as they were behind a call, also behind their lengths.
func stays(t *testing.T, all []held, call func()) {
	t.Helper()
	var before []held
	for _, one := range all {
		before = append(before, one.clone())
	}
	call()
	for at, one := range all {
		if !one.same(before[at]) {
			t.Errorf("%s was handed in and has changed", one.name)
		}
	}
}

// calls are all calls that take a node and give nodes or bytes, each of which tells its answer's lists.
func calls(n, other api.Node, e api.Entry) []func() []held {
	return []func() []held{
		func() []held { node.Size(n); node.Check(n); node.Find(n, e.Key); return nil },
		func() []held { b, _ := node.Encode(n); return []held{holdBytes("Encode", b)} },
		func() []held { return hold("Put", node.Put(n, e)) },
		func() []held { got, _ := node.Drop(n, e.Key); return hold("Drop", got) },
		func() []held {
			a, b, key := node.Halves(n)
			return append(append(hold("the first half", a), hold("the second half", b)...), holdBytes("the key between", key))
		},
		func() []held { return hold("Join", node.Join(n, other, e.Key)) },
		func() []held { return hold("Join", node.Join(other, n, e.Key)) },
		func() []held { return hold("Join", node.Join(n, n, e.Key)) },
	}
}

func cases() []api.Node {
	return append(some(), leaf(), branch(), leaf(small("a", "1"), small("b", "2"), small("c", "3")), leaf(small("b", ""), small("a", "")), leafOf(1030), branchOf(1030), leaf(small("", ""), small("b", "")))
}

// keysOf are the keys to ask a node for: each of its own, and some that are not there.
func keysOf(n api.Node) []string {
	keys := []string{"", "0", "m0", "zz"}
	for _, e := range n.Entries {
		keys = append(keys, string(e.Key))
	}
	return keys
}

func TestWhatIsHandedInStays(t *testing.T) {
	for _, n := range cases() {
		for _, key := range keysOf(n) {
			in, other, e := roomy(n), roomy(api.Node{Leaf: n.Leaf, Entries: []api.Entry{small("x", "y")}}), roomyEntry(small(key, "new"))
			args := append(append(hold("the node", in), hold("the other", other)...), holdBytes("the key", e.Key), holdBytes("the value", e.Value))
			for _, call := range calls(in, other, e) {
				stays(t, args, func() { call() })
			}
		}
	}
}

func TestWhatComesOutIsNewMemory(t *testing.T) {
	for _, n := range cases() {
		for _, key := range keysOf(n) {
			for at := range calls(n, n, api.Entry{}) {
				in, other, e := roomy(n), roomy(api.Node{Leaf: n.Leaf, Entries: []api.Entry{small("x", "y")}}), roomyEntry(small(key, "new"))
				all := append(append(hold("the node", in), hold("the other", other)...), holdBytes("the key", e.Key), holdBytes("the value", e.Value))
				call := calls(in, other, e)[at]
				all = append(append(all, call()...), call()...)
				apart(t, all...)
			}
		}
	}
}

// texts is what lists have, bytes and entries.
func texts(all []held) (out []string) {
	for _, h := range all {
		out = append(out, string(h.bytes)+tell(leaf(h.entries...)))
	}
	return out
}

// TestWhatComesOutDoesNotChangeLaterAnswers spoils what came out, and asks again.
func TestWhatComesOutDoesNotChangeLaterAnswers(t *testing.T) {
	for _, n := range cases() {
		for _, call := range calls(roomy(n), roomy(n), roomyEntry(small("m0", "new"))) {
			got := call()
			want := texts(got)
			for _, h := range got {
				h.spoil()
			}
			if !slices.Equal(texts(call()), want) {
				t.Errorf("an answer of %s is another one later", tell(n))
			}
		}
	}
}

func TestDecodeIsNewMemory(t *testing.T) {
	for _, n := range some() {
		b := roomyBytes(encoded(t, n))
		stays(t, []held{holdBytes("the bytes", b)}, func() { node.Decode(1, b); node.Decode(2, b); node.Decode(3, b) })
		one, _ := node.Decode(kindOf(n), b)
		two, _ := node.Decode(kindOf(n), b)
		for at := range b {
			b[at] ^= 0x5a
		}
		isNode(t, "behind its bytes' change", one, n)
		apart(t, append(append(hold("one", one), hold("two", two)...), holdBytes("the bytes", b))...)
	}
}

// TestRoomBehindIsNotRead lays what would be right, or wrong, behind the ends of lists.
func TestRoomBehindIsNotRead(t *testing.T) {
	for _, n := range cases() {
		in := roomy(n)
		if node.Size(in) != node.Size(n) || node.Check(in) != node.Check(n) {
			t.Errorf("room of %s was read", tell(n))
		}
		for _, key := range keysOf(n) {
			at, is := found(n, key)
			if mayBe(n) {
				finds(t, in, key, at, is)
				puts(t, in, roomyEntry(small(key, "new")))
			}
		}
		if mayBe(n) {
			a, b, key := parted(n)
			halves(t, in, a, b, key)
		}
	}
	for _, n := range some() {
		b := encoded(t, n)
		for length := range b {
			refuses(t, "an end that lies in the room", kindOf(n), b[:length])
		}
		decodes(t, "room behind", kindOf(n), roomyBytes(b))
		checks(t, "room behind", roomy(n), api.OK)
	}
}

// TestNilAndEmptyAreTheSame asks each call for both.
func TestNilAndEmptyAreTheSame(t *testing.T) {
	for _, none := range [][]byte{nil, {}} {
		checks(t, "no value", leaf(api.Entry{Key: []byte("a"), Value: none}), api.OK)
		checks(t, "no key", leaf(api.Entry{Key: none}), api.ErrNodeForm)
		checks(t, "a great one's value", leaf(api.Entry{Key: []byte("a"), Value: none, Page: 9, Size: 100}), api.OK)
		checks(t, "a first key", branch(api.Entry{Key: none, Page: 9}), api.OK)
		for kind := range uint8(4) {
			refuses(t, "no bytes", kind, none)
		}
		for _, other := range [][]byte{nil, {}} {
			n := branch(api.Entry{Key: other, Page: 9}, kid("m", 10))
			if at, is := node.Find(n, none); at != 0 || !is {
				t.Error("Find of no key tells", at, is)
			}
			isNode(t, "Put", node.Put(n, api.Entry{Key: none, Page: 8}), branch(kid("", 8), kid("m", 10)))
			got, was := node.Drop(n, none)
			isNode(t, "Drop", got, branch(kid("m", 10)))
			if !was {
				t.Error("Drop of no key tells that it was not there")
			}
			isNode(t, "Join", node.Join(n, api.Node{Entries: []api.Entry{}}, none), n)
		}
	}
}
