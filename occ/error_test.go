package occ_test

import (
	"fmt"
	"strings"
	"testing"

	"codicil/api"
	"codicil/occ"
)

func long(n int) []byte { return []byte(strings.Repeat("k", n)) }

// full is a transaction that has written 1000 keys and has 1000 notes.
func full(t testing.TB, db *occ.DB) *occ.Txn {
	t.Helper()
	x := db.Begin(0)
	for n := range 1000 {
		if n%3 == 0 {
			answers(t, "delete", x.Delete(fmt.Appendf(nil, "%03d", n)), api.OK)
		} else {
			answers(t, "put", x.Put(fmt.Appendf(nil, "%03d", n), []byte("v")), api.OK)
		}
		answers(t, "note", x.Note([]byte("n")), api.OK)
	}
	return x
}

// TestWhichErrorComesFirst: of Put, Delete, Note and Get, each error with each other one that may come with it.
func TestWhichErrorComesFirst(t *testing.T) {
	db := created(t, newDisk(t, 200))
	fresh, many, ended := db.Begin(0), full(t, db), full(t, db)
	ended.Abort()
	const (
		fine = iota
		tooLong
		none
		ofState
		ofFeed
	)
	keys := [][]byte{long(160), long(161), nil, append([]byte{0}, long(159)...), append([]byte{4}, long(159)...)}
	more := [][]byte{[]byte("a"), long(9000), {}, []byte(seqKey), []byte(noteAt(1, 0))}
	for _, kind := range []int{fine, tooLong, none, ofState, ofFeed} {
		for _, key := range [][]byte{keys[kind], more[kind]} {
			for _, size := range []int{0, 8192, 8193, 70000} {
				for at, x := range []*occ.Txn{fresh, many, ended} {
					put, del := api.OK, api.OK
					switch {
					case x == ended:
						put, del = api.ErrEnded, api.ErrEnded
					case kind == tooLong || kind == none:
						put, del = api.ErrKeyLong, api.ErrKeyLong
					case kind == ofState:
						put, del = api.ErrArg, api.ErrArg
					case x == many:
						put, del = api.ErrOccMany, api.ErrOccMany
					}
					if put == api.OK || put == api.ErrOccMany {
						switch {
						case kind == ofFeed:
							put = api.ErrArg
						case size > 8192:
							put = api.ErrDocLong
						}
					}
					what := fmt.Sprintf("transaction %d, key %s, %d bytes", at, short(string(key)), size)
					answers(t, "put: "+what, x.Put(key, make([]byte, size)), put)
					answers(t, "delete: "+what, x.Delete(key), del)
				}
			}
		}
	}
	for size, want := range map[int][]api.Errno{0: {api.OK, api.ErrOccMany, api.ErrEnded}, 8192: {api.OK, api.ErrOccMany, api.ErrEnded}, 8193: {api.ErrDocLong, api.ErrDocLong, api.ErrEnded}} {
		for at, x := range []*occ.Txn{fresh, many, ended} {
			answers(t, fmt.Sprintf("note of %d bytes, transaction %d", size, at), x.Note(make([]byte, size)), want[at])
		}
	}
	for key, want := range map[string]api.Errno{"": api.ErrKeyLong, string(long(161)): api.ErrKeyLong, string(long(160)): api.OK, "\x00": api.OK, "\x04": api.OK, seqKey: api.OK} {
		for at, x := range []*occ.Txn{fresh, many, ended} {
			if x == ended {
				want = api.ErrEnded
			}
			value, is, err := x.Get([]byte(key))
			if err != want || len(value) > 0 || is {
				t.Errorf("get %s of transaction %d: %q, %v, %v, not %v", short(key), at, value, is, err, want)
			}
		}
	}
}

// TestTheKeysEnds: what has 1 to 160 bytes goes into the store, and out of it; what is refused leaves nothing.
func TestTheKeysEnds(t *testing.T) {
	w := newTable(t, 200)
	s := w.begin(0)
	for _, key := range []string{"", "\x00", "\x01", "\x02", "\x03", "\x04", "\x04\x00", "\x05", "\x06", "\x07", "\xff", string(long(1)), string(long(159)), string(long(160)), string(long(161)), string(long(9000)), seqKey, noteAt(1, 0), "\x00" + string(long(160)), "\x04" + string(long(160))} {
		for _, size := range []int{0, 64, 65, 8192, 8193} {
			s.do(put(key, strings.Repeat("v", size)), get(key))
		}
	}
	s.sees()
	s.ends(api.OK)
	w.flush(api.OK)
	w.lasts()
	s = w.begin(0)
	for _, key := range []string{"", "\x00", "\x01", "\x02", "\x04", "\x04\x00", "\xff", string(long(160)), string(long(161)), seqKey, noteAt(2, 0)} {
		s.do(del(key), get(key))
	}
	s.do(note(""), note(strings.Repeat("n", 8192)), note(strings.Repeat("n", 8193)))
	s.ends(api.OK)
	w.flush(api.OK)
	w.lasts()
	w.serial()
}

// TestWhatIsRefusedWritesNothing: one that was refused all its calls has nothing to commit.
func TestWhatIsRefusedWritesNothing(t *testing.T) {
	w := base(t)
	s := w.begin(0).do(put("", ""), put(string(long(161)), ""), put("\x00", ""), put("\x04", ""), put("a", strings.Repeat("v", 8193)), del(""), del("\x00"), note(strings.Repeat("n", 8193)))
	s.do(get("a"), get("b"))
	w.commits(put("a", "1"), put("b", "1"))
	s.ends(api.OK)
	if w.db.Waiting() != 1 {
		t.Errorf("%d wait", w.db.Waiting())
	}
}

// TestManyWrites: 1000 keys, and none more; but one of the 1000 again, and once one is undone, another one.
func TestManyWrites(t *testing.T) {
	w := newTable(t, 1500)
	s := w.begin(0)
	for n := range 998 {
		s.real.Put(fmt.Appendf(nil, "key %04d", n), []byte("1"))
		s.plain.Put(fmt.Appendf(nil, "key %04d", n), []byte("1"))
	}
	s.do(put("key 0000", "2"), del("key 0001"), del("key 0997"))
	s.do(del("new 998"), put("new 999", "1"), put("new 1000", "1"), del("new 1001"), del("key 0999"))
	s.do(put("key 0000", "3"), del("key 0000"), put("new 998", "1"), del("new 999"), get("new 1000"), get("new 998"))
	s.do(put("new 1000", strings.Repeat("v", 8193)), put("", ""), put("\x04", ""), del("\x04"))
	s.do(try(api.ErrArg, put("key 0002", "4"), put("new 1000", "1")), put("new 1000", "1"))
	s.ends(api.OK)
	s = w.begin(0)
	for n := range 999 {
		s.real.Delete(fmt.Appendf(nil, "key %04d", n))
		s.plain.Delete(fmt.Appendf(nil, "key %04d", n))
	}
	s.do(try(api.ErrArg, put("last", "1"), put("more", "1"), del("more")), put("another", "1"), put("last", "1"))
	s.do(get("another"), get("last"))
	for range 1001 {
		s.plain.Note([]byte("n"))
		s.real.Note([]byte("n"))
	}
	s.do(note("n"), note(strings.Repeat("n", 8193)), try(api.ErrArg, note("n")))
	s.ends(api.OK)
	w.flush(api.OK)
	w.lasts()
	if len(w.plain.now) < 1000 {
		t.Errorf("%d keys", len(w.plain.now))
	}
}

// TestManyNotes: 1000, and none more, however many keys are written; once one is undone, another one.
func TestManyNotes(t *testing.T) {
	w := newTable(t, 600)
	s := w.begin(0)
	for n := range 999 {
		s.real.Note(fmt.Appendf(nil, "note %d", n))
		s.plain.Note(fmt.Appendf(nil, "note %d", n))
	}
	s.do(try(api.ErrArg, note("undone"), note("one more")), note("the last"), note("one more"), note(""), put("a", "1"))
	s.ends(api.OK)
	w.flush(api.OK)
	w.lasts()
	if got := w.plain.now[noteAt(1, 999)]; got != "the last" {
		t.Errorf("%q", got)
	}
}

// TestManyThatWait: 64, and none more; the next one stays live, also if it could not be at all, and commits behind a flush.
func TestManyThatWait(t *testing.T) {
	w := newTable(t, 400)
	could, couldNot, reader, late := w.begin(0).do(get("x"), put("could", "1"), note("n")), w.begin(0).do(get("key 3"), put("could not", "1")), w.begin(0).do(get("key 3")), w.begin(0)
	for n := range 64 {
		w.commits(put(fmt.Sprintf("key %d", n), "1"))
	}
	for range 3 {
		could.ends(api.ErrOccMany)
		couldNot.ends(api.ErrOccMany)
		late.ends(api.OK)
		late = w.begin(0)
	}
	reader.ends(api.OK)
	could.do(get("x"), put("more", "2"), nextOpen("z", ""))
	couldNot.do(try(api.ErrArg, del("could not")), get("key 3"))
	aborted := w.begin(0).do(put("y", ""))
	aborted.ends(api.ErrOccMany)
	aborted.do(abort())
	if l := w.flush(api.OK); len(l) != 64 {
		t.Errorf("%d are done", len(l))
	}
	could.ends(api.OK)
	couldNot.ends(api.ErrOccConflict)
	for n := range 63 {
		w.commits(put(fmt.Sprintf("key %d", n), "2"))
	}
	last := w.begin(0).do(note("last"))
	last.ends(api.ErrOccMany)
	w.disk.Fail(syncKind, 0)
	w.flush(api.ErrIO)
	last.ends(api.OK)
	w.flush(api.OK)
	w.lasts()
	if w.db.Seq() != 65 {
		t.Errorf("Seq %d", w.db.Seq())
	}
}

// TestManyThatWaitByNotesAlone, or by deletes alone: they wait like others.
func TestManyThatWaitByNotesAlone(t *testing.T) {
	w := newTable(t, 400)
	for range 32 {
		w.commits(note(""))
		w.commits(del("nothing"))
	}
	w.begin(0).do(note("")).ends(api.ErrOccMany)
	w.begin(0).do(del("nothing")).ends(api.ErrOccMany)
	w.begin(0).do(try(api.ErrArg, note(""), del("nothing"))).ends(api.OK)
	w.flush(api.OK)
	w.lasts()
}

// TestCallsOfOneThatHasEnded: by a commit that waits, by one that only reads, by one that was refused, by an abort. Right and wrong arguments.
func TestCallsOfOneThatHasEnded(t *testing.T) {
	finishes := map[string]func(w *table) *seat{
		"waits":   func(w *table) *seat { return w.commits(put("a", "1"), note("n"), get("b")) },
		"read":    func(w *table) *seat { return w.commits(get("b")) },
		"nothing": func(w *table) *seat { return w.commits() },
		"refused": func(w *table) *seat {
			s := w.begin(7).do(get("b"), put("a", "1"))
			w.commits(put("b", "2"))
			s.ends(api.ErrOccConflict)
			return s
		},
		"aborted": func(w *table) *seat { return w.begin(-5).do(get("b"), put("a", "1"), note("n"), abort()) },
	}
	for name, run := range finishes {
		for range 2 {
			w := base(t)
			s := run(w)
			w.text = append(w.text, name)
			for range 2 {
				s.calls()
				w.flush(api.OK)
				w.lasts()
			}
		}
	}
}

// calls looks at all calls of one that has ended.
func (s *seat) calls() {
	s.table.Helper()
	wrong := string(long(161))
	for _, x := range []step{
		get("a"), get("b"), get(""), get(wrong), next("a", "e"), next("e", "a"), nextOpen("", ""), prev("a", "e"), prev("", ""), prevOpen("", ""),
		put("a", "1"), put("", ""), put("\x00", ""), put("b", strings.Repeat("v", 8193)), del("b"), del(""), del("\x00"), del(wrong),
		note("n"), note(strings.Repeat("n", 8193)), finish(), abort(),
	} {
		s.do(x)
		if got := s.log[len(s.log)-1].told; !strings.HasSuffix(got, api.ErrEnded.Error()) || strings.Contains(got, "true") {
			s.table.Errorf("%s of one that has ended: %s", x.name, got)
		}
	}
	answers(s.table, "try", s.real.Try(func() api.Errno {
		s.table.Error("the function is asked")
		return api.ErrArg
	}), api.ErrEnded)
	answers(s.table, "try of no function", s.real.Try(nil), api.ErrEnded)
	s.tells()
}
