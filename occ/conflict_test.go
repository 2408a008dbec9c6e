package occ_test

import (
	"slices"
	"strings"
	"testing"

	"codicil/api"
)

// meeting is what one transaction reads, and what each of some others writes that is a conflict with it, or is none.
type meeting struct {
	name     string
	reads    []step
	conflict [][]step
	none     [][]step
}

func writes(l ...step) []step { return l }

// putsOf are writes of a key each.
func putsOf(keys ...string) [][]step {
	var out [][]step
	for _, key := range keys {
		out = append(out, writes(put(key, "other")))
	}
	return out
}

// meetings are over a store that has b, d and f; the one that writes has the number 2.
func meetings() []meeting {
	return append(append(keyMeetings(), spanMeetings()...), ownMeetings()...)
}

func keyMeetings() []meeting {
	return []meeting{
		{"a key that is there", []step{get("b")},
			append(putsOf("b"), writes(del("b")), writes(put("x", ""), del("b"), put("y", "")), writes(put("b", "1"))),
			append(putsOf("a", "bb", "b\x00", "c", "B"), writes(del("d")), writes(note("b")), writes(put("x", "b")))},
		{"a key that is not there", []step{get("c")},
			append(putsOf("c"), writes(del("c")), writes(put("c", ""), del("c")), writes(del("c"), put("c", ""))),
			append(putsOf("b", "c\x00", "cc", "d"), writes(del("b")))},
		{"the longest key", []step{get(strings.Repeat("k", 160))},
			putsOf(strings.Repeat("k", 160)),
			putsOf(strings.Repeat("k", 159), strings.Repeat("k", 159)+"l", strings.Repeat("k", 159)+"j")},
		{"several keys", []step{get("f"), get("b"), get("a")},
			append(putsOf("a", "b", "f"), writes(del("f"))),
			putsOf("aa", "c", "d", "e", "g")},
		{"a note", []step{get(noteAt(2, 0))},
			[][]step{writes(note("n")), writes(note("n"), note("m")), writes(put("x", ""), note(""))},
			append(putsOf("x"), writes(del("b")), writes(del(noteAt(2, 1))))},
		{"the second note", []step{get(noteAt(2, 1))},
			[][]step{writes(note("n"), note("m")), writes(note(""), note(""), note("")), writes(del(noteAt(2, 1)))},
			[][]step{writes(note("n")), writes(put("x", ""))}},
		{"another one's note", []step{get(noteAt(3, 0)), get(noteAt(1, 0)), get(noteAt(0, 0))},
			[][]step{writes(del(noteAt(1, 0))), writes(del(noteAt(3, 0)))},
			[][]step{writes(note("n"), note("m")), writes(del(noteAt(2, 0)))}},
		{"the state's key", []step{get(seqKey)},
			append(putsOf("x"), writes(del("x")), writes(note("n")), writes(del(noteAt(9, 9)))), nil},
		{"other keys of the state", []step{get("\x00"), get("\x00se"), get("\x00seq\x00"), get("\x00t")},
			nil, append(putsOf("x"), writes(note("n")))},
		{"nothing", nil, nil,
			append(putsOf("a", "b", "x", "other"), writes(note("n")), writes(del("b")))},
	}
}

func spanMeetings() []meeting {
	return []meeting{
		{"up to a key", []step{next("a", "e")},
			append(putsOf("a", "a\x00", "aa", "b"), writes(del("b")), writes(del("a")), writes(put("z", ""), del("aa"))),
			append(putsOf("A", "`\xff", "b\x00", "bb", "c", "d", "e"), writes(del("d")), writes(del("c")), writes(note("a")))},
		{"up to its first key", []step{next("b", "c")},
			append(putsOf("b"), writes(del("b"))),
			putsOf("a", "a\xff", "b\x00", "bb", "c")},
		{"to its end, up", []step{next("c", "d")},
			append(putsOf("c", "c\x00", "cc", "c\xff\xff"), writes(del("c")), writes(del("cx"))),
			append(putsOf("b", "b\xff", "d", "d\x00"), writes(del("d")))},
		{"to no end, up", []step{nextOpen("g", "a")},
			putsOf("g", "g\x00", "z", "\xff\xff"), putsOf("f", "f\xff", "b", "a")},
		{"up to a key, without end", []step{nextOpen("c", "a")},
			putsOf("c", "cc", "d"), putsOf("b", "d\x00", "e", "z")},
		{"from the first key on", []step{nextOpen("", "")},
			append(putsOf("x", "b"), writes(note("n"))), nil}, // the state's key is the first one
		{"behind the state", []step{next("\x01", "c")},
			append(putsOf("\x01", "a", "b"), writes(note("n")), writes(del("\x05"))), putsOf("b\x00", "c", "z")},
		{"down to a key", []step{prev("a", "e")},
			append(putsOf("d", "d\x00", "dd", "d\xff\xff"), writes(del("d")), writes(del("dx"))),
			append(putsOf("e", "c", "c\xff", "b", "a", "z"), writes(del("b")), writes(del("e")))},
		{"down to its last key", []step{prev("c", "d\x00")},
			append(putsOf("d"), writes(del("d"))),
			putsOf("c", "cc", "d\x00", "dd")},
		{"to its beginning, down", []step{prev("a", "b")},
			append(putsOf("a", "a\x00", "aa", "a\xff"), writes(del("aa"))),
			append(putsOf("A", "`\xff", "b", "b\x00"), writes(del("b")))},
		{"to no end, down", []step{prevOpen("a", "b")},
			append(putsOf("f", "f\x00", "g", "\xff\xff"), writes(del("f"))), putsOf("e\xff", "d", "a")},
		{"an empty end, down", []step{prevOpen("g", "")},
			putsOf("g", "z", "\xff"), putsOf("f", "f\xff", "a")},
		{"spans without keys", []step{next("c", "c"), next("e", "a"), next("", ""), prev("c", "c"), prev("e", "a"), prev("", ""), prev("z", ""), next("z", "")},
			nil, append(putsOf("a", "b", "c", "d", "e", "z"), writes(note("n")))},
		{"two spans that leave a gap", []step{next("a", "c"), prev("c", "e")},
			putsOf("a", "b", "d", "dd"), putsOf("b\x00", "c", "cc", "e")},
		{"a span within the feed", []step{next("\x04", "\x05")},
			[][]step{writes(note("n")), writes(put("x", ""), note("")), writes(del("\x04")), writes(del(noteAt(7, 7)))},
			append(putsOf("x", "\x05", "\x03\xff"), writes(del("b")))},
		{"a span within the state", []step{next("\x00", "\x01")},
			append(putsOf("x"), writes(note("n"))), nil},
		{"a span ahead of the state's key", []step{next("\x00", seqKey), prev("\x00", seqKey), nextOpen("\x00seq\x00", "")},
			append(putsOf("a", "b"), writes(note("n"))), putsOf("x", "c")},
	}
}

// ownMeetings are with what the reader has written itself.
func ownMeetings() []meeting {
	return []meeting{
		{"what it has only written", []step{put("b", "own"), del("d"), put("c", "own"), note("own")},
			nil, append(putsOf("b", "c", "d"), writes(note("n")), writes(del("b")))},
		{"what it wrote, and then read", []step{put("b", "own"), get("b"), del("d"), get("d"), put("c", "own"), get("c"), del("a"), get("a")},
			nil, append(putsOf("a", "b", "c", "d"), writes(del("b")), writes(note("n")))},
		{"what it read, and then wrote", []step{get("b"), put("b", "own"), get("b"), get("c"), del("c")},
			append(putsOf("b", "c"), writes(del("c"))), putsOf("a", "d")},
		{"up to a key of its own", []step{put("aa", "own"), next("a", "e")},
			putsOf("a", "a\x00", "aa"), putsOf("aa\x00", "b", "c")},
		{"over one that it deleted", []step{del("b"), next("a", "e")},
			putsOf("a", "b", "bb", "c", "d"), putsOf("d\x00", "e")},
		{"to an end, all being deleted", []step{del("b"), del("d"), next("a", "e")},
			putsOf("a", "b", "c", "d", "d\xff"), putsOf("e", "f", "A")},
		{"down to a key of its own", []step{put("dd", "own"), prev("a", "e")},
			putsOf("dd", "dd\x00", "d\xff"), putsOf("d", "dc", "e")},
		{"down over one that it deleted", []step{del("d"), prev("a", "e")},
			putsOf("b", "b\x00", "c", "d", "dd"), putsOf("a", "aa", "e")},
		{"what was read in a Try that erred", []step{try(api.ErrArg, put("b", "own"), get("c"), next("d", "e"), get("b"))},
			putsOf("c", "d"), putsOf("b", "a", "e")},
		{"what was read in a Try", []step{try(api.OK, get("c"), try(api.ErrIO, get("a")))},
			putsOf("a", "c"), putsOf("b", "d")},
		{"what was asked wrongly", []step{get(""), get(strings.Repeat("b", 161)), put("", ""), del("")},
			nil, putsOf("b", "c", strings.Repeat("b", 160))},
	}
}

// base is a table whose store has b, d and f by its first transaction.
func base(t testing.TB) *table {
	t.Helper()
	w := newTable(t, 120)
	w.commits(put("b", "1"), put("d", "2"), put("f", "3"))
	w.flush(api.OK)
	return w
}

// courses are how two may meet: the one that reads is told, and the other one's steps.
type course struct {
	name   string
	counts bool // does what the other one writes count?
	run    func(w *table, reads, writes []step) *seat
}

func courses() []course {
	return []course{
		{"the other one waits", true, func(w *table, reads, writes []step) *seat {
			s := w.begin(0).do(reads...)
			w.commits(writes...)
			return s
		}},
		{"the other one waited at its begin", true, func(w *table, reads, writes []step) *seat {
			w.commits(writes...)
			return w.begin(0).do(reads...)
		}},
		{"the other one waited ahead of its reads", true, func(w *table, reads, writes []step) *seat {
			s := w.begin(0)
			w.commits(writes...)
			return s.do(reads...)
		}},
		{"the other one is flushed", true, func(w *table, reads, writes []step) *seat {
			s := w.begin(0).do(reads...)
			w.commits(writes...)
			w.flush(api.OK)
			return s
		}},
		{"the other one waited at its begin, and is flushed", true, func(w *table, reads, writes []step) *seat {
			w.commits(writes...)
			s := w.begin(0)
			w.flush(api.OK)
			return s.do(reads...)
		}},
		{"the other one is flushed, and others behind it", true, func(w *table, reads, writes []step) *seat {
			s := w.begin(0).do(reads...)
			w.commits(writes...)
			w.flush(api.OK)
			key := s.unread("\x06others", "zothers", "gothers")
			for range 3 {
				w.commits(put(key, ""))
				w.begin(0).do(put(key, "")).ends(api.OK)
				w.flush(api.OK)
			}
			return s
		}},
		{"the other one was flushed ahead of its begin", false, func(w *table, reads, writes []step) *seat {
			elder := w.begin(0)
			w.commits(writes...)
			w.flush(api.OK)
			s := w.begin(0).do(reads...)
			elder.do(get("b"), abort())
			return s
		}},
		{"the other one was aborted", false, func(w *table, reads, writes []step) *seat {
			s := w.begin(0).do(reads...)
			w.begin(0).do(writes...).do(abort())
			return s
		}},
		{"the other one has not committed", false, func(w *table, reads, writes []step) *seat {
			s := w.begin(0).do(reads...)
			w.begin(0).do(writes...)
			return s
		}},
		{"the other one was refused", false, func(w *table, reads, writes []step) *seat {
			w.commits(put("\x07refuses", "1"))
			other := w.begin(0).do(get("\x07refuses")).do(writes...)
			w.flush(api.OK)
			s := w.begin(0).do(reads...)
			other.ends(api.ErrOccConflict)
			return s
		}},
		{"the other one's flush went wrong", false, func(w *table, reads, writes []step) *seat {
			s := w.begin(0).do(reads...)
			w.commits(writes...)
			w.disk.Fail(syncKind, 0)
			w.flush(api.ErrIO)
			return s
		}},
		{"the other one undid it all", false, func(w *table, reads, writes []step) *seat {
			s := w.begin(0).do(reads...)
			w.begin(0).do(try(api.ErrArg, writes...)).ends(api.OK)
			return s
		}},
	}
}

// unread is the first of some keys that was not read.
func (s *seat) unread(keys ...string) string {
	for _, key := range keys {
		if !slices.ContainsFunc(s.plain.read, func(x stretch) bool { return x.has(key) }) {
			return key
		}
	}
	return keys[0]
}

// TestMeetings: all of them, by each course. One that was not to be refused is flushed, and all is as it were one behind the other.
func TestMeetings(t *testing.T) {
	for _, m := range meetings() {
		for _, c := range courses() {
			for _, l := range m.conflict {
				m.run(t, c, l, c.counts)
			}
			for _, l := range m.none {
				m.run(t, c, l, false)
			}
		}
	}
}

func (m meeting) run(t *testing.T, c course, l []step, conflicts bool) {
	t.Helper()
	w := base(t)
	s := c.run(w, m.reads, l)
	want := api.OK
	if conflicts {
		want = api.ErrOccConflict
	}
	waiting := w.db.Waiting()
	s.do(put("\x07own", "1")).do(finish())
	if got := s.log[len(s.log)-1].told; got != want.Error() {
		t.Fatalf("%s, %s: %s: %s, not %v", m.name, c.name, w.done(), got, want)
	}
	if !conflicts {
		waiting++
	}
	if w.db.Waiting() != waiting {
		t.Fatalf("%s, %s: %d wait", m.name, c.name, w.db.Waiting())
	}
	w.flush(api.OK)
	w.begin(0).sees()
	w.serial()
}

// TestOneThatOnlyReads commits, whatever others wrote; and what it read lasts as it was.
func TestOneThatOnlyReads(t *testing.T) {
	for _, m := range meetings() {
		for _, c := range courses() {
			for _, l := range m.conflict {
				if m.writes() {
					continue
				}
				w := base(t)
				s := c.run(w, m.reads, l)
				waiting := w.db.Waiting()
				s.ends(api.OK)
				if w.db.Waiting() != waiting {
					t.Fatalf("%s: one that only reads waits", m.name)
				}
				w.flush(api.OK)
				w.lasts()
			}
		}
	}
}

func (m meeting) writes() bool {
	for _, s := range m.reads {
		if !strings.HasPrefix(s.name, "get") && !strings.HasPrefix(s.name, "next") && !strings.HasPrefix(s.name, "prev") {
			return true
		}
	}
	return false
}

// TestOneWithNobodyBesideIt commits, whatever it reads and writes, also its own keys, those of the state and of the feed.
func TestOneWithNobodyBesideIt(t *testing.T) {
	w := base(t)
	for _, m := range meetings() {
		for _, l := range append(m.conflict, m.none...) {
			w.begin(0).do(m.reads...).do(l...).do(m.reads...).ends(api.OK)
			w.flush(api.OK)
			w.begin(0).do(get("b"), nextOpen("", ""), prevOpen("", ""), put("x", "1"), note("n"), del("b")).ends(api.OK)
			w.flush(api.OK)
		}
	}
	w.lasts()
}

// TestWhoCameFirst: of two that read what the other one writes the one that commits first may be, whichever began first.
func TestWhoCameFirst(t *testing.T) {
	for _, flushes := range []bool{false, true} {
		for first := range 2 {
			w := base(t)
			both := []*seat{w.begin(0).do(get("b"), put("d", "x")), w.begin(0).do(get("d"), put("b", "x"))}
			both[first].ends(api.OK)
			if flushes {
				w.flush(api.OK)
			}
			both[1-first].ends(api.ErrOccConflict)
			w.flush(api.OK)
			w.serial()
		}
	}
}

// TestOneThatWasRefusedLeavesNothing: its keys are no conflict to others, its number is the next one's, and the flush has nothing of it.
func TestOneThatWasRefusedLeavesNothing(t *testing.T) {
	w := base(t)
	s := w.begin(0).do(get("b"), put("own", "1"), put("c", "1"), del("f"), note("own"))
	reader := w.begin(0).do(get("own"), get("c"), get("f"), get(noteAt(3, 0)), put("reader", "1"))
	w.commits(put("b", "2"))
	s.ends(api.ErrOccConflict)
	s.do(finish(), abort(), get("b"))
	reader.ends(api.OK)
	if l := w.flush(api.OK); len(l) != 2 || l[0].Seq != 2 || l[1].Seq != 3 {
		t.Errorf("%v", l)
	}
	w.lasts()
	w.serial()
}

// TestNotesOfTheOthersThatWait: the n-th that waits has its notes under the database's Seq and n.
func TestNotesOfTheOthersThatWait(t *testing.T) {
	for number := uint64(2); number < 7; number++ {
		for at := range 3 {
			w := base(t)
			s := w.begin(0).do(get(noteAt(number, at)), put("own", "1"))
			for range 3 {
				w.commits(note("n"), note("m"))
			}
			if number <= 4 && at < 2 {
				s.ends(api.ErrOccConflict)
			} else {
				s.ends(api.OK)
			}
			w.flush(api.OK)
			w.lasts()
		}
	}
}

// TestWhatIsKeptForTheEldest: as others end, early and late, each is held against all that came behind its own snapshot, and against nothing else.
func TestWhatIsKeptForTheEldest(t *testing.T) {
	const rounds = 6
	for end := range rounds {
		for asked := range rounds {
			for key := range rounds {
				w := newTable(t, 200)
				var all []*seat
				for n := range rounds {
					all = append(all, w.begin(0))
					w.commits(put(string(rune('a'+n)), "1"))
					w.flush(api.OK)
				}
				for n := range end {
					all[(n*5+end)%rounds].do(abort())
				}
				if all[asked].plain.ended {
					continue
				}
				all[asked].do(get(string(rune('a'+key))), put("own", "1"))
				if key >= asked {
					all[asked].ends(api.ErrOccConflict)
				} else {
					all[asked].ends(api.OK)
				}
			}
		}
	}
}

// TestAKeyThatWasWrittenTwice: ahead of a snapshot and behind it, it is a conflict; ahead of it alone, it is none.
func TestAKeyThatWasWrittenTwice(t *testing.T) {
	for _, twice := range []bool{false, true} {
		w := base(t)
		w.begin(0)
		w.commits(put("b", "2"))
		w.flush(api.OK)
		s := w.begin(0).do(get("b"), put("own", "1"))
		if twice {
			w.commits(del("b"))
			w.commits(put("b", "2"))
			w.flush(api.OK)
			s.ends(api.ErrOccConflict)
		} else {
			s.ends(api.OK)
		}
	}
}
