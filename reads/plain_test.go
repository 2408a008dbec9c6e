package reads_test

import (
	"bytes"
	"fmt"
	"slices"
	"strings"
	"testing"

	"codicil/api"
	"codicil/reads"
)

// step is one Key or Span that is added, as texts.
type step struct {
	from, to string
	open     bool
	single   bool // a Key: from
}

func key(k string) step { return step{from: k, single: true} }

func span(from, to string) step { return step{from: from, to: to} }

// open is a span without end, with a To that is not to be looked at.
func open(from, to string) step { return step{from: from, to: to, open: true} }

// has is by the chapter's words.
func (x step) has(k string) bool {
	if x.single {
		return k == x.from
	}
	return k >= x.from && (x.open || k < x.to)
}

func (x step) String() string {
	switch {
	case x.single:
		return short(x.from)
	case x.open:
		return short(x.from) + ".. (" + short(x.to) + ")"
	}
	return short(x.from) + ".." + short(x.to)
}

func short(text string) string {
	if len(text) > 20 {
		return fmt.Sprintf("%q..%d", text[:20], len(text))
	}
	return fmt.Sprintf("%q", text)
}

// plain is a set by the chapter's words: the row of all that was added.
type plain struct{ row []step }

func (p *plain) has(k string) bool {
	return slices.ContainsFunc(p.row, func(x step) bool { return x.has(k) })
}

func (p *plain) meets(keys ...string) bool { return slices.ContainsFunc(keys, p.has) }

// edges are the keys, rising, at which something that was added begins or ends: from each up to the next one all were read, or none.
func (p *plain) edges() []string {
	var out []string
	for _, x := range p.row {
		out = append(out, x.from)
		if x.single {
			out = append(out, x.from+"\x00")
		} else if !x.open {
			out = append(out, x.to)
		}
	}
	slices.Sort(out)
	return slices.Compact(out)
}

// all are the spans as few as may be: one begins, and ends, where what was read does.
func (p *plain) all() []step {
	var out []step
	reading := false
	for _, edge := range p.edges() {
		switch read := p.has(edge); {
		case read && !reading:
			out = append(out, open(edge, ""))
			reading = true
		case !read && reading:
			out[len(out)-1] = span(out[len(out)-1].from, edge)
			reading = false
		}
	}
	return out
}

// twin is a set, and a plain one to which the same is added.
type twin struct {
	testing.TB
	set   *reads.Set
	plain *plain
}

func newTwin(t testing.TB, l ...step) *twin {
	t.Helper()
	w := &twin{t, reads.New(), &plain{}}
	if w.set == nil {
		t.Fatal("New told nothing")
	}
	w.add(l...)
	return w
}

func (w *twin) add(l ...step) {
	for _, x := range l {
		if x.single {
			w.set.Key([]byte(x.from))
		} else {
			w.set.Span(api.Span{From: []byte(x.from), To: []byte(x.to), Open: x.open})
		}
	}
	w.plain.row = append(w.plain.row, l...)
}

// String is what was added last, for the text of a failure.
func (w *twin) String() string {
	l := w.plain.row[max(0, len(w.plain.row)-12):]
	out := []string{fmt.Sprint(len(w.plain.row)-len(l), " and")}
	for _, x := range l {
		out = append(out, x.String())
	}
	return strings.Join(out, " ")
}

// asStep is a span that was told.
func asStep(x api.Span) step { return step{from: string(x.From), to: string(x.To), open: x.Open} }

func shown(l []api.Span) string {
	var out []string
	for _, x := range l {
		out = append(out, asStep(x).String())
	}
	return strings.Join(out, ", ")
}

func isAll(got []api.Span, want []step) bool {
	return slices.EqualFunc(got, want, func(x api.Span, y step) bool { return asStep(x) == y })
}

// alike looks whether both tell the same: all spans, and of these keys and of those at all edges and about them whether they were read.
func (w *twin) alike(others ...string) {
	w.Helper()
	w.tellsAll()
	w.tellsHas(others...)
	w.tellsHas(about(w.plain.edges())...)
}

func (w *twin) tellsAll() {
	w.Helper()
	got, want := w.set.All(), w.plain.all()
	if !isAll(got, want) {
		w.Fatalf("behind %s: All %s, not %v", w, shown(got), want)
	}
}

func (w *twin) tellsHas(keys ...string) {
	w.Helper()
	for _, k := range keys {
		if got, want := w.set.Has([]byte(k)), w.plain.has(k); got != want {
			w.Fatalf("behind %s: Has(%s): %v", w, short(k), got)
		}
	}
}

func (w *twin) tellsMeets(keys ...string) {
	w.Helper()
	if got, want := w.set.Meets(bytesOf(keys...)), w.plain.meets(keys...); got != want {
		w.Fatalf("behind %s: Meets(%q): %v", w, keys, got)
	}
}

// about are some keys, those right behind them, and such as lie a little ahead of them and behind.
func about(keys []string) []string {
	out := []string{"", "\x00", "\xff\xff\xff"}
	for _, k := range keys {
		out = append(out, k, k+"\x00", k+"\x00\x00", k+"\xff")
		if k == "" {
			continue
		}
		if last := k[len(k)-1]; last > 0 {
			out = append(out, k[:len(k)-1]+string([]byte{last - 1}), k[:len(k)-1]+string([]byte{last - 1, 0xff, 0xff}))
		}
		out = append(out, k[:len(k)-1])
	}
	return out
}

func bytesOf(keys ...string) [][]byte {
	var out [][]byte
	for _, k := range keys {
		out = append(out, []byte(k))
	}
	return out
}

// withRoom is a list with room behind it that has other bytes.
func withRoom(list string, room int, other byte) []byte {
	out := append([]byte(list), bytes.Repeat([]byte{other}, room)...)
	return out[:len(list):len(out)]
}

// spoil writes into all memory that a list has, also into the room behind it.
func spoil(list []byte) {
	for at := range list[:cap(list)] {
		list[:cap(list)][at] ^= 0x5a
	}
}

// oddKeys are of all kinds, rising: the empty one, beginnings of others, those right behind others, bytes 00 and ff, longer than any of a document.
func oddKeys() []string {
	return []string{
		"", "\x00", "\x00\x00", "\x00\x01", "\x00\xff", "\x01", "a", "a\x00", "a\x00\x00", "a\x01", "a\xff", "aa", "ab", "b", "ba",
		strings.Repeat("k", 160), strings.Repeat("k", 161), strings.Repeat("k", 5000), strings.Repeat("k", 5000) + "\x00",
		"\x7f", "\x80", "\x80\x00", "\xfe", "\xff", "\xff\x00", "\xff\xff", "\xff\xff\x00", strings.Repeat("\xff", 70000),
	}
}
