package reads_test

import (
	"bytes"
	"testing"

	"codicil/api"
	"codicil/reads"
)

// several are a set's steps with which all kinds of spans come out: of a key, of a span, of some put together, open.
func several() []step {
	return []step{key("c"), key("a"), span("e", "g"), span("f", "h"), span("k", "m"), key("m"), open("x", "y")}
}

// texts are keys as they are handed in, with room behind them.
func texts() []string { return []string{"", "k", "key", "kezzzzzz", "m", "key\x00"} }

// TestWhatIsHandedInStays: it is not changed, nor is what lies behind it, which is not read either.
func TestWhatIsHandedInStays(t *testing.T) {
	for _, from := range texts() {
		for _, to := range texts() {
			for _, room := range []byte{'k', 0, 0xff} {
				w := newTwin(t, several()[:4]...)
				a, b := withRoom(from, 30, room), withRoom(to, 30, room)
				wholeA, wholeB := bytes.Clone(a[:cap(a)]), bytes.Clone(b[:cap(b)])
				w.set.Key(a)
				w.plain.row = append(w.plain.row, key(from))
				w.alike(texts()...)
				w.set.Span(api.Span{From: a, To: b})
				w.plain.row = append(w.plain.row, span(from, to))
				w.alike(texts()...)
				w.asked(a, b)
				w.set.Span(api.Span{From: b, To: a, Open: true})
				w.plain.row = append(w.plain.row, open(to, from))
				w.alike(texts()...)
				w.asked(a, b)
				if !bytes.Equal(a[:cap(a)], wholeA) || !bytes.Equal(b[:cap(b)], wholeB) {
					t.Errorf("what was handed in for %q and %q has changed", from, to)
				}
			}
		}
	}
}

// asked asks by keys as they were handed in; the list of them has room behind it, with a key that was read.
func (w *twin) asked(keys ...[]byte) {
	w.Helper()
	list := append(bytesOf(), keys...)
	list = append(list, []byte("c"))
	for at, k := range keys {
		if got := w.set.Has(k); got != w.plain.has(string(k)) {
			w.Errorf("behind %s: Has(%q): %v", w, k, got)
		}
		if got := w.set.Meets(list[at : at+1]); got != w.plain.has(string(k)) {
			w.Errorf("behind %s: Meets(%q): %v", w, k, got)
		}
	}
	if got := w.set.Meets(list[:0]); got {
		w.Errorf("behind %s: Meets of none: %v", w, got)
	}
	for at, k := range keys {
		if &list[at][:1][0] != &k[:1][0] || string(list[len(keys)]) != "c" {
			w.Errorf("behind %s: the list of keys has changed", w)
		}
	}
}

// TestWhatIsHandedInIsNotKept: changed behind the call, it changes nothing of what is told.
func TestWhatIsHandedInIsNotKept(t *testing.T) {
	for _, ask := range []bool{false, true} {
		w := newTwin(t)
		for range 30 {
			for _, from := range texts() {
				for _, x := range []step{key(from), span(from, from+"x"), span(from+"\x00", "l")} {
					a, b := withRoom(from, 30, 'k'), withRoom(x.to, 30, 'k')
					if x.single {
						w.set.Key(a)
					} else {
						a = withRoom(x.from, 30, 'k')
						w.set.Span(api.Span{From: a, To: b})
					}
					w.plain.row = append(w.plain.row, x)
					spoil(a)
					spoil(b)
					if ask {
						w.tellsAll()
					}
				}
			}
		}
		w.alike(texts()...)
		from, to := withRoom("yyy", 30, 'k'), withRoom("a", 30, 'k')
		w.set.Span(api.Span{From: from, To: to, Open: true})
		w.plain.row = append(w.plain.row, open("yyy", "a"))
		spoil(from)
		spoil(to)
		w.alike(texts()...)
	}
}

// TestOneListForAll: all keys are handed in by the same memory, beginnings and ends too; also a key within a span's other end.
func TestOneListForAll(t *testing.T) {
	w := newTwin(t)
	var memory [16]byte
	for _, x := range append(several(), span("b", "ba"), key(""), span("", "a"), open("m", "a")) {
		copy(memory[8:], x.to)
		from, to := memory[:copy(memory[:8], x.from)], memory[8:8+len(x.to)]
		if x.single {
			w.set.Key(from)
		} else {
			w.set.Span(api.Span{From: from, To: to, Open: x.open})
		}
		w.plain.row = append(w.plain.row, x)
	}
	w.alike()
	s := reads.New()
	list := []byte("abc")
	s.Span(api.Span{From: list[:2], To: list})
	spoil(list)
	if got := s.All(); !isAll(got, []step{span("ab", "abc")}) {
		t.Errorf("All: %s", shown(got))
	}
}

// TestWhatComesOutIsNewMemory: spoilt with the room behind it, and the list overwritten; what is told next is right all the same.
func TestWhatComesOutIsNewMemory(t *testing.T) {
	w := newTwin(t)
	for _, x := range append(several(), several()...) {
		w.add(x)
		for range 2 {
			l := w.set.All()
			for at, x := range l {
				spoil(x.From)
				spoil(x.To)
				l[at] = api.Span{From: []byte("w"), Open: true}
			}
			l = append(l[:0], api.Span{From: []byte("v"), To: []byte("w")})
			w.alike("v", "w")
		}
	}
}

// TestWhatComesOutSharesNothing: no two lists of one answer or of two, nor the room behind them.
func TestWhatComesOutSharesNothing(t *testing.T) {
	w := newTwin(t, several()...)
	w.add(key(""), key("\x00"), key("b"), key("b\x00"))
	told := func() [][]byte {
		var out [][]byte
		for range 2 {
			for _, x := range w.set.All() {
				out = append(out, x.From, x.To)
			}
		}
		return out
	}
	var want []string
	for _, list := range told() {
		want = append(want, string(list))
	}
	lists := told()
	for at, list := range lists {
		if string(list) != want[at] {
			t.Fatalf("the %d-th list: %q, not %q", at, list, want[at])
		}
		spoil(list)
	}
	lists = told()
	for at, list := range lists {
		lists[at] = append(list, byte(at))
	}
	for at, list := range lists {
		if string(list) != want[at]+string([]byte{byte(at)}) {
			t.Fatalf("room behind the %d-th list is another one's", at)
		}
	}
	one, two := w.set.All(), w.set.All()
	one, two = append(one, api.Span{From: []byte("one")}), append(two, api.Span{From: []byte("two")})
	if last := one[len(one)-1]; string(last.From) != "one" || string(two[0].From) != want[0] {
		t.Error("room behind the list of spans is another one's")
	}
	w.alike()
}

// TestWhatWasToldStays: also when more is added, and asked.
func TestWhatWasToldStays(t *testing.T) {
	w := newTwin(t, several()...)
	l := w.set.All()
	want := shown(l)
	w.add(span("a", "d"), key("d"), open("b", ""), key(""), open("", ""))
	w.alike()
	if got := shown(l); got != want {
		t.Errorf("%s, not %s", got, want)
	}
}
