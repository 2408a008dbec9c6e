package key_test

import (
	"bytes"
	"slices"
	"testing"

	"codicil/api"
	"codicil/key"
	"codicil/value"
)

// rich is a tuple with memory of all sorts, and room behind each of its lists.
func rich() []api.Value {
	room := func(l ...api.Value) []api.Value { return append(make([]api.Value, 0, len(l)+3), l...) }
	b := append(make([]byte, 0, 9), 0, 1, 255)
	inner := api.Value{Kind: api.KindList, List: room(null(), octets(4, 5), text("é"))}
	return room(api.Value{Kind: api.KindBytes, Bytes: b}, api.Value{Kind: api.KindList, List: room(inner, number(1))}, text("a"), octets())
}

// spoil writes into all memory that v has, also into room behind its lists.
func spoil(v *api.Value) {
	spoilBytes(v.Bytes)
	for i := range v.List[:cap(v.List)] {
		spoil(&v.List[:cap(v.List)][i])
	}
	v.Kind, v.Int, v.Text = 99, v.Int+1, "spoilt"
}

func spoilBytes(b []byte) {
	for i := range b[:cap(b)] {
		b[:cap(b)][i] ^= 0x5a
	}
}

// withRoom is b with other bytes in the room behind it.
func withRoom(b []byte) []byte {
	return append(slices.Clone(b), bytes.Repeat([]byte{0x10}, 20)...)[:len(b)]
}

func roomStays(b []byte) bool {
	for _, c := range b[len(b):cap(b)][:20] {
		if c != 0x10 {
			return false
		}
	}
	return true
}

func TestArgumentsStay(t *testing.T) {
	down := append(make([]bool, 0, 9), true, false)
	for _, call := range []func(l []api.Value){
		func(l []api.Value) { key.Encode(l, down) },
		func(l []api.Value) { key.One(l[0], false) },
		func(l []api.Value) { key.One(l[1], true) },
		func(l []api.Value) { key.Cmp(l, rich(), down) },
		func(l []api.Value) { key.Cmp(rich()[:2], l, down) },
	} {
		l := rich()
		call(l)
		if !sameTuples(l, rich()) || !sameTuples(l[:cap(l)], rich()[:cap(l)]) || !bytes.Equal(l[0].Bytes[:9], rich()[0].Bytes[:9]) || !sameTuples(l[1].List[:4], rich()[1].List[:4]) {
			t.Error("a tuple was changed")
		}
		if !slices.Equal(down[:9], []bool{true, false, false, false, false, false, false, false, false}) {
			t.Error("down was changed")
		}
	}
	b := withRoom(tupleBytes(rich(), down))
	for _, call := range []func(){
		func() { key.Decode(b, down) },
		func() { key.Split(b, true) },
		func() { key.Split(b, false) },
		func() { key.After(b) },
	} {
		call()
		if !bytes.Equal(b, tupleBytes(rich(), down)) || !roomStays(b) {
			t.Error("bytes were changed")
		}
	}
}

// What lies behind bytes is not theirs.
func TestRoomBehindIsNotRead(t *testing.T) {
	whole := bytesOf(list(text("abc"), null()))
	for n := range whole {
		splitsNot(t, whole[:n], false)
		if n > 0 {
			decodesNot(t, whole[:n], nil, 0)
		}
	}
	splits(t, append(slices.Clone(whole), 1, 2, 3)[:len(whole)], false, list(text("abc"), null()), nil)
	if b, ok := key.After([]byte{255, 1}[:1]); ok || len(b) != 0 {
		t.Errorf("%x, %v", b, ok)
	}
	values := []api.Value{null(), doc(), doc(), doc(), doc()}
	if b, err := key.Encode(values[:1], []bool{false, true}[:1]); err != api.OK || !bytes.Equal(b, []byte{0x10}) {
		t.Errorf("%x, %v", b, err)
	}
	if b, err := key.Encode([]api.Value{null(), null()}, []bool{false, true}[:1]); err != api.OK || !bytes.Equal(b, []byte{0x10, 0x10}) {
		t.Errorf("%x, %v", b, err)
	}
}

func TestWrittenBytesAreNew(t *testing.T) {
	l := rich()
	want := tupleBytes(l, nil)
	a, _ := key.Encode(l, nil)
	b, _ := key.Encode(l, nil)
	one, _ := key.One(l[0], false)
	two, _ := key.One(l[0], false)
	spoilBytes(a)
	spoilBytes(one)
	if !sameTuples(l, rich()) || !bytes.Equal(b, want) || !bytes.Equal(two, bytesOf(l[0])) {
		t.Error("what came out is somebody else's")
	}
	for i := range l {
		spoil(&l[i])
	}
	if !bytes.Equal(b, want) || !bytes.Equal(two, bytesOf(rich()[0])) {
		t.Error("what came out is the argument's")
	}
}

func TestReadValuesAreNew(t *testing.T) {
	b := withRoom(tupleBytes(rich(), nil))
	same := slices.Clone(b)
	first, _, _ := key.Decode(b, nil)
	second, _, _ := key.Decode(b, nil)
	for i := range first[:cap(first)] {
		spoil(&first[:cap(first)][i])
		if !sameTuples(second, rich()) || !bytes.Equal(b, same) || !roomStays(b) {
			t.Fatal("two tuples, or a tuple and its bytes, share memory")
		}
		for k := i + 1; k < len(first); k++ {
			if !value.Same(first[k], rich()[k]) {
				t.Fatal("two values of a tuple share memory")
			}
		}
	}
	spoilBytes(b)
	if !sameTuples(second, rich()) {
		t.Error("a tuple shares memory with its bytes")
	}
}

func TestSplitPartsAreNew(t *testing.T) {
	l := rich()
	b := withRoom(append(bytesOf(l[1]), 7, 8, 9))
	same := slices.Clone(b)
	v, rest, _ := key.Split(b, false)
	w, left, _ := key.Split(b, false)
	spoil(&v)
	if !bytes.Equal(rest, []byte{7, 8, 9}) {
		t.Error("the value and the rest share memory")
	}
	spoilBytes(rest)
	if !bytes.Equal(b, same) || !roomStays(b) || !value.Same(w, l[1]) || !bytes.Equal(left, []byte{7, 8, 9}) {
		t.Error("what came out is somebody else's")
	}
	spoilBytes(b)
	if !value.Same(w, l[1]) || !bytes.Equal(left, []byte{7, 8, 9}) {
		t.Error("what came out is the argument's")
	}
}

func TestAfterIsNew(t *testing.T) {
	b := withRoom([]byte{1, 2, 255})
	x, _ := key.After(b)
	y, _ := key.After(b)
	spoilBytes(x)
	if !bytes.Equal(b, []byte{1, 2, 255}) || !roomStays(b) || !bytes.Equal(y, []byte{1, 3}) {
		t.Error("what came out is somebody else's")
	}
	spoilBytes(b)
	if !bytes.Equal(y, []byte{1, 3}) {
		t.Error("what came out is the argument's")
	}
}

// A list that is nil and one that is empty are the same thing.
func TestEmptyLists(t *testing.T) {
	empty := api.Value{Kind: api.KindBytes, Bytes: []byte{}, List: []api.Value{}, Fields: []api.Field{}}
	for _, down := range [][]bool{nil, {}} {
		a, err := key.Encode([]api.Value{empty}, down)
		b, other := key.Encode([]api.Value{octets()}, down)
		if err != api.OK || other != api.OK || !bytes.Equal(a, b) || key.Cmp([]api.Value{empty}, tuple(octets()), down) != 0 {
			t.Errorf("%x, %x", a, b)
		}
		for _, l := range [][]api.Value{nil, {}} {
			if b, err := key.Encode(l, down); err != api.OK || len(b) != 0 {
				t.Errorf("%x, %v", b, err)
			}
		}
	}
}
