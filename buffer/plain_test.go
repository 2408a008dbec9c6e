package buffer_test

import (
	"bytes"
	"fmt"
	"maps"
	"slices"
	"strings"
	"testing"

	"codicil/api"
	"codicil/buffer"
)

// said is what one Put or Delete says of a key, as texts.
type said struct {
	key, value string
	gone       bool
}

func put(key, value string) said { return said{key: key, value: value} }

func gone(key string) said { return said{key: key, gone: true} }

// plain is a buffer by the chapter's words: the row of all that was said, in its order; of each key the last one counts.
type plain struct{ row []said }

func (p *plain) all() map[string]said {
	out := map[string]said{}
	for _, x := range p.row {
		out[x.key] = x
	}
	return out
}

func (p *plain) back(mark int) api.Errno {
	if mark < 0 || mark > len(p.row) {
		return api.ErrArg
	}
	p.row = p.row[:mark]
	return api.OK
}

// rising are keys in the order of their bytes, which is that of texts.
func rising[V any](all map[string]V) []string { return slices.Sorted(maps.Keys(all)) }

// keyAfter goes through all of some keys, that rise.
func keyAfter(keys []string, from string, in bool) (string, bool) {
	for _, key := range keys {
		if key > from || in && key == from {
			return key, true
		}
	}
	return "", false
}

func keyAhead(keys []string, from string, in bool) (string, bool) {
	out, is := "", false
	for _, key := range keys {
		if key < from || in && (key == from || from == "") {
			out, is = key, true
		}
	}
	return out, is
}

// same says whether a change is what a plain buffer tells; of nothing it is empty.
func same(got api.Change, is bool, want said, there bool) bool {
	return string(got.Key) == want.key && string(got.Value) == want.value && got.Delete == want.gone && is == there
}

// twin is a buffer, and a plain one of which the same is said.
type twin struct {
	testing.TB
	buffer *buffer.Buffer
	plain  *plain
}

func newTwin(t testing.TB, l ...said) *twin {
	t.Helper()
	w := &twin{t, buffer.New(), &plain{}}
	if w.buffer == nil {
		t.Fatal("New told nothing")
	}
	w.say(l...)
	return w
}

func (w *twin) say(l ...said) {
	for _, x := range l {
		if x.gone {
			w.buffer.Delete([]byte(x.key))
		} else {
			w.buffer.Put([]byte(x.key), []byte(x.value))
		}
	}
	w.plain.row = append(w.plain.row, l...)
}

func (w *twin) back(mark int) {
	w.Helper()
	want := w.plain.back(mark)
	if got := w.buffer.Back(mark); got != want {
		w.Fatalf("Back(%d) behind %s: %v, not %v", mark, w, got, want)
	}
}

// String is what was said last, for the text of a failure.
func (w *twin) String() string {
	l := w.plain.row[max(0, len(w.plain.row)-12):]
	out := []string{fmt.Sprint(len(w.plain.row)-len(l), " and")}
	for _, x := range l {
		out = append(out, x.String())
	}
	return strings.Join(out, " ")
}

func (x said) String() string {
	if x.gone {
		return "-" + short(x.key)
	}
	return "+" + short(x.key) + "=" + short(x.value)
}

// shown are changes as they were told.
func shown(l ...api.Change) string {
	var out []string
	for _, c := range l {
		out = append(out, fmt.Sprintf("%s %s %v", short(string(c.Key)), short(string(c.Value)), c.Delete))
	}
	return strings.Join(out, ", ")
}

func short(text string) string {
	if len(text) > 20 {
		return fmt.Sprintf("%q..%d", text[:20], len(text))
	}
	return fmt.Sprintf("%q", text)
}

// alike looks whether both tell the same, of these keys and of all of which something is said.
func (w *twin) alike(others ...string) {
	w.Helper()
	all := w.plain.all()
	keys := rising(all)
	changes := w.buffer.Changes()
	right := slices.EqualFunc(changes, keys, func(c api.Change, key string) bool { return same(c, true, all[key], true) })
	if !right || w.buffer.Len() != len(keys) || w.buffer.Mark() != len(w.plain.row) {
		w.Fatalf("behind %s: Changes %s, Len %d, Mark %d", w, shown(changes...), w.buffer.Len(), w.buffer.Mark())
	}
	for _, key := range slices.Concat(others, keys) {
		want, there := all[key]
		if got, is := w.buffer.Get([]byte(key)); !same(got, is, want, there) {
			w.Fatalf("behind %s: Get(%s): %s, %v", w, short(key), shown(got), is)
		}
		for _, in := range []bool{false, true} {
			w.goesOn(all, keys, key, in)
		}
	}
}

func (w *twin) goesOn(all map[string]said, keys []string, from string, in bool) {
	w.Helper()
	for _, x := range []struct {
		name string
		call func([]byte, bool) (api.Change, bool)
		key  func([]string, string, bool) (string, bool)
	}{{"Next", w.buffer.Next, keyAfter}, {"Prev", w.buffer.Prev, keyAhead}} {
		var want said
		key, there := x.key(keys, from, in)
		if there {
			want = all[key]
		}
		if got, is := x.call([]byte(from), in); !same(got, is, want, there) {
			w.Fatalf("behind %s: %s(%s, %v): %s, %v", w, x.name, short(from), in, shown(got), is)
		}
	}
}

// withRoom is a list with room behind it that has other bytes.
func withRoom(list string, room int, other byte) []byte {
	out := append([]byte(list), bytes.Repeat([]byte{other}, room)...)
	return out[:len(list):len(out)]
}

// spoil writes into all memory that a list has, also into the room behind it.
func spoil(list []byte) {
	for at := range list[:cap(list)] {
		list[:cap(list)][at] ^= 0x5a
	}
}

// oddKeys are of all kinds: the empty one, beginnings of others, bytes 00 and ff, longer than any of a document.
func oddKeys() []string {
	return []string{
		"", "\x00", "\x00\x00", "\x00\x01", "\x00\xff", "\x01", "a", "a\x00", "a\x00\x00", "a\x01", "a\xff", "aa", "ab", "b", "ba",
		"\x7f", "\x80", "\x80\x00", "\xfe", "\xff", "\xff\x00", "\xff\xff", "\xff\xff\x00",
		strings.Repeat("k", 160), strings.Repeat("k", 161), strings.Repeat("k", 5000), strings.Repeat("k", 5000) + "\x00", strings.Repeat("\xff", 70000),
	}
}
