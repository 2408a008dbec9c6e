package node

import (
	"testing"

	"codicil/api"
)

func TestReadTellsWhatWasRead(t *testing.T) {
	n, err := read([]byte{1, 2, 3}, func(r *reader) api.Node {
		return api.Node{Leaf: true, Entries: []api.Entry{{Page: r.number(2), Key: r.take(1)}}}
	})
	if err != api.OK || !n.Leaf || len(n.Entries) != 1 || n.Entries[0].Page != 0x0201 || string(n.Entries[0].Key) != "\x03" {
		t.Errorf("%v and %v", n, err)
	}
}

func TestReadTellsWhatTheReaderGaveUp(t *testing.T) {
	for name, form := range map[string]func(*reader){
		"a number that is cut off":  func(r *reader) { r.number(4) },
		"more than there is":        func(r *reader) { r.take(4) },
		"far more than there is":    func(r *reader) { r.take(1<<32 - 1) },
		"what does not hold":        func(r *reader) { r.must(false) },
		"one behind one that holds": func(r *reader) { r.must(true); r.take(3); r.number(1) },
		"a kind that is none":       func(r *reader) { r.node(3) },
	} {
		n, err := read([]byte{1, 2, 3}, func(r *reader) api.Node { form(r); return api.Node{Leaf: true} })
		if n.Leaf || n.Entries != nil || err != api.ErrNodeForm {
			t.Errorf("%s: %v and %v", name, n, err)
		}
	}
}

// A panic that is not the reader's own is a fault of the program, not of the bytes: it is not taken for one.
func TestReadLetsOtherPanicsPass(t *testing.T) {
	for _, other := range []any{"a text", 5, api.ErrNodeForm, struct{}{}, &fault{}} {
		func() {
			defer func() {
				if given := recover(); given != other {
					t.Errorf("%v came of %v", given, other)
				}
			}()
			read(nil, func(*reader) api.Node { panic(other) })
			t.Errorf("%v was taken for the reader's own", other)
		}()
	}
}
