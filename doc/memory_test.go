package doc_test

import (
	"bytes"
	"slices"
	"testing"

	"codicil/api"
	"codicil/doc"
	"codicil/value"
)

// rich is a value with memory of all sorts, and room behind each of its lists.
func rich() api.Value {
	room := func(l ...api.Value) []api.Value { return append(make([]api.Value, 0, len(l)+3), l...) }
	fields := func(f ...api.Field) []api.Field { return append(make([]api.Field, 0, len(f)+2), f...) }
	b := func(b ...byte) []byte { return append(make([]byte, 0, len(b)+5), b...) }
	inner := api.Value{Kind: api.KindDoc, Fields: fields(field("x", octets(b(9, 8)...)), field("y", list(room(null())...)))}
	return api.Value{Kind: api.KindDoc, Fields: fields(
		field("a", api.Value{Kind: api.KindBytes, Bytes: b(0, 1, 255)}),
		field("b", api.Value{Kind: api.KindList, List: room(inner, text("é"), octets(b(4)...), octets())}),
		field("c", list(room(list(), document(), number(5))...)),
		field("d", octets(b(0, 1, 255)...)),
	)}
}

// spoil writes into all memory that v has, also into room behind its lists.
func spoil(v *api.Value) {
	spoilBytes(v.Bytes)
	for at := range v.List[:cap(v.List)] {
		spoil(&v.List[:cap(v.List)][at])
	}
	for at := range v.Fields[:cap(v.Fields)] {
		f := &v.Fields[:cap(v.Fields)][at]
		f.Name = "spoilt"
		spoil(&f.Value)
	}
	v.Kind, v.Int, v.Text = 99, v.Int+1, "spoilt"
}

func spoilBytes(b []byte) {
	for at := range b[:cap(b)] {
		b[:cap(b)][at] ^= 0x5a
	}
}

// stays looks whether v, made by rich, is as it was, also behind its lists' lengths.
func stays(t *testing.T, v api.Value) {
	t.Helper()
	if !sameWithRoom(v, rich()) {
		t.Errorf("changed: %s", shown(v))
	}
}

func sameWithRoom(a, b api.Value) bool {
	fieldsAlike := func(f, g api.Field) bool { return f.Name == g.Name && sameWithRoom(f.Value, g.Value) }
	return a.Kind == b.Kind && a.Int == b.Int && a.Text == b.Text && a.Bool == b.Bool &&
		len(a.Bytes) == len(b.Bytes) && bytes.Equal(a.Bytes[:cap(a.Bytes)], b.Bytes[:cap(b.Bytes)]) &&
		len(a.List) == len(b.List) && slices.EqualFunc(a.List[:cap(a.List)], b.List[:cap(b.List)], sameWithRoom) &&
		len(a.Fields) == len(b.Fields) && slices.EqualFunc(a.Fields[:cap(a.Fields)], b.Fields[:cap(b.Fields)], fieldsAlike)
}

// withRoom is b with other bytes in the room behind it.
func withRoom(b []byte) []byte {
	return append(slices.Clone(b), bytes.Repeat([]byte{0x10}, 20)...)[:len(b)]
}

func roomStays(b []byte) bool {
	return bytes.Equal(b[len(b) : len(b)+20][:20], bytes.Repeat([]byte{0x10}, 20))
}

func TestArgumentsStay(t *testing.T) {
	v := rich()
	doc.Encode(v)
	stays(t, v)
	doc.Size(v)
	stays(t, v)
	b := withRoom(bytesOf(rich()))
	doc.Decode(b)
	if !bytes.Equal(b, bytesOf(rich())) || !roomStays(b) {
		t.Error("bytes were changed")
	}
}

// What lies behind a list's length is not its own.
func TestRoomBehindIsNotRead(t *testing.T) {
	whole := bytesOf(rich())
	for n := range whole {
		decodesNot(t, whole[:n])
	}
	decodes(t, append(slices.Clone(whole), 1, 2, 3)[:len(whole)], rich())
	torn := text("\xff")
	holds(t, list([]api.Value{null(), torn, torn}[:1]...), hexed("07 01 01"))
	holds(t, octets([]byte{1, 2, 3}[:1]...), hexed("06 01 01"))
	holds(t, document([]api.Field{field("b", null()), field("a", torn)}[:1]...), hexed("08 01 01 62 01"))
	holds(t, api.Value{Kind: api.KindNull, Bytes: []byte{1}[:0], List: []api.Value{torn}[:0], Fields: []api.Field{field("", torn)}[:0]}, hexed("01"))
}

func TestWrittenBytesAreNew(t *testing.T) {
	v := rich()
	want := bytesOf(v)
	a, _ := doc.Encode(v)
	b, _ := doc.Encode(v)
	spoilBytes(a)
	stays(t, v)
	if !bytes.Equal(b, want) {
		t.Error("what came out twice shares memory")
	}
	if c, err := doc.Encode(v); err != api.OK || !bytes.Equal(c, want) {
		t.Error("what came out is kept")
	}
	spoil(&v)
	if !bytes.Equal(b, want) {
		t.Error("what came out is the argument's")
	}
}

func TestReadValuesAreNew(t *testing.T) {
	b := withRoom(bytesOf(rich()))
	same := slices.Clone(b)
	first, _ := doc.Decode(b)
	second, _ := doc.Decode(b)
	spoil(&first)
	if !value.Same(second, rich()) || !bytes.Equal(b, same) || !roomStays(b) {
		t.Error("what came out is somebody else's")
	}
	spoilBytes(b)
	if !value.Same(second, rich()) {
		t.Error("what came out is the argument's")
	}
}

// Each part of a value that was read has memory of its own, also in the room behind its lists.
func TestPartsShareNothing(t *testing.T) {
	v, _ := doc.Decode(bytesOf(rich()))
	for at := range v.Fields {
		for room := len(v.Fields); room < cap(v.Fields); room++ {
			v.Fields[:cap(v.Fields)][room].Value = null()
		}
		spoil(&v.Fields[at].Value)
		for k := at + 1; k < len(v.Fields); k++ {
			if !value.Same(v.Fields[k].Value, rich().Fields[k].Value) {
				t.Fatalf("fields %d and %d share memory", at, k)
			}
		}
	}
	v, _ = doc.Decode(bytesOf(rich().Fields[1].Value))
	for at := range v.List {
		spoil(&v.List[at])
		for k := at + 1; k < len(v.List); k++ {
			if !value.Same(v.List[k], rich().Fields[1].Value.List[k]) {
				t.Fatalf("values %d and %d share memory", at, k)
			}
		}
	}
}
