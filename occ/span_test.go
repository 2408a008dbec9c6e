package occ_test

import (
	"fmt"
	"strings"
	"testing"

	"codicil/api"
)

// ends are where a span may begin and end: keys, those right behind them, such as lie between, none, and longer ones than any key.
func ends() []string {
	return []string{"", "\x00", "a", "b", "b\x00", "c", "d", "dd", "e", "f", "f\x00", "g", strings.Repeat("b", 160), strings.Repeat("b", 161), strings.Repeat("b", 5000), "\xff\xff"}
}

// views are what a transaction has written over a store that has b, d and f.
func views() map[string][]step {
	return map[string][]step{
		"nothing":                 nil,
		"other keys":              {put("a", "own"), put("c", "own"), put("e", "own"), put("g", "own")},
		"other values":            {put("b", "own"), put("d", ""), put("f", "own")},
		"the first is deleted":    {del("b")},
		"one between is deleted":  {del("d")},
		"the last is deleted":     {del("f")},
		"all are deleted":         {del("b"), del("d"), del("f")},
		"others are deleted":      {del("a"), del("c"), del("g"), del(noteAt(1, 0))},
		"deleted, and put again":  {del("b"), put("b", "own"), put("c", "own"), del("c")},
		"one in place of another": {del("b"), put("b\x00", "own"), del("d"), put("dd", "own")},
		"great ones":              {put("c", strings.Repeat("v", 8192)), put(strings.Repeat("b", 160), "own")},
		"notes":                   {note("n"), note("m")},
		"undone":                  {put("c", "own"), try(api.ErrArg, del("b"), put("c", "other"), del("d"), put("e", "own"))},
	}
}

// TestSpans: Next and Prev of all spans, over each view; and Get of all ends.
func TestSpans(t *testing.T) {
	for name, l := range views() {
		w := base(t)
		s := w.begin(0).do(l...)
		w.text = []string{name}
		for _, from := range ends() {
			for _, to := range ends() {
				s.do(next(from, to), prev(from, to), nextOpen(from, to), prevOpen(from, to))
			}
			s.do(get(from))
		}
		s.sees()
		s.ends(api.OK)
		w.flush(api.OK)
		w.lasts()
		w.begin(0).sees()
	}
}

// TestSpansOfNothing: over a store without keys, and over one that has the state's alone.
func TestSpansOfNothing(t *testing.T) {
	w := newTable(t, 100)
	for range 2 {
		s := w.begin(0)
		for _, from := range ends() {
			for _, to := range ends() {
				s.do(next(from, to), prev(from, to), nextOpen(from, to), prevOpen(from, to))
			}
		}
		s.do(abort())
		w.commits(del("nothing"))
		w.flush(api.OK)
	}
}

// TestReadsOfSpans: what Next and Prev of a span read, held against the writes of each key about it, one by one.
func TestReadsOfSpans(t *testing.T) {
	edges := []string{"", "a", "b", "bb", "d", "e", "f", "g"}
	for name, l := range map[string][]step{"nothing": nil, "some": {del("d"), put("bb", "own")}} {
		for _, from := range edges {
			for _, to := range edges {
				for _, read := range []step{next(from, to), prev(from, to), nextOpen(from, to), prevOpen(from, to)} {
					w := base(t)
					w.text = []string{name}
					readAndWritten(w, l, read)
				}
			}
		}
	}
}

// readAndWritten has many transactions read the same, and after each write looks at one of them whether that is a conflict.
func readAndWritten(w *table, l []step, read step) {
	w.Helper()
	for _, key := range []string{"\x01", "`\xff", "a", "a\x00", "aa", "b", "b\x00", "ba", "bb", "bb\x00", "c", "d", "d\x00", "e", "e\x00", "ee", "f", "f\x00", "g", "gg", "\xff"} {
		s := w.begin(0).do(l...).do(read, put("\x07", "own"))
		writer := w.begin(0)
		writer.do(put(key, "other"), finish())
		s.do(finish())
		w.disk.Fail(syncKind, 0)
		w.flush(api.ErrIO)
	}
}

// TestManyKeys: more than a node has, gone through up and down, with some written by itself.
func TestManyKeys(t *testing.T) {
	w := newTable(t, 400)
	for part := range 4 {
		s := w.begin(0)
		for n := range 50 {
			s.do(put(fmt.Sprintf("key %03d", n*4+part), strings.Repeat("v", n*part)))
		}
		s.ends(api.OK)
		w.flush(api.OK)
	}
	s := w.begin(0)
	for n := range 60 {
		s.do(del(fmt.Sprintf("key %03d", n*3)), put(fmt.Sprintf("key %03d+", n*2), "own"))
	}
	s.sees()
	w.commits(put("key 0000", ""), del("key 001"))
	w.flush(api.OK)
	s.sees()
	s.ends(api.ErrOccConflict)
	w.serial()
}

// TestASnapshotStays as it was, while others commit and flush, and one after the other is read.
func TestASnapshotStays(t *testing.T) {
	w := base(t)
	var all []*seat
	for n := range 12 {
		all = append(all, w.begin(int64(n)))
		w.commits(put("b", strings.Repeat("v", n*100)), put(fmt.Sprintf("new %d", n), "1"), note("n"))
		if n%3 == 0 {
			w.commits(del("d"), del(fmt.Sprintf("new %d", n-1)), del(noteAt(uint64(n), 0)))
		}
		if n%2 == 0 {
			w.flush(api.OK)
		}
		for _, s := range all {
			s.sees()
		}
	}
	for _, s := range all {
		s.ends(api.OK)
	}
	if got := w.db.Space(); got.Held != 0 || got.Free != got.Pages-2-got.Tree-got.Listed {
		t.Errorf("behind the end of all: %+v", got)
	}
	w.serial()
}
