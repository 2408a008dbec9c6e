package occ_test

import (
	"testing"

	"codicil/api"
	"codicil/occ"
)

func answers(t testing.TB, what string, got, want api.Errno) {
	t.Helper()
	if got != want {
		t.Errorf("%s: %v, not %v", what, got, want)
	}
}

// TestErrorsHaveTheirNumbers: those of the chapter.
func TestErrorsHaveTheirNumbers(t *testing.T) {
	for number, err := range map[int]api.Errno{1: api.ErrArg, 7: api.ErrEnded, 42: api.ErrKeyLong, 51: api.ErrDocLong, 180: api.ErrOccConflict, 181: api.ErrOccMany, 182: api.ErrOccForm} {
		if int(err) != number {
			t.Errorf("%d is %d", number, err)
		}
	}
}

// TestFirstExample is the chapter's.
func TestFirstExample(t *testing.T) {
	db := created(t, newDisk(t, 100))
	first, second := db.Begin(0), db.Begin(0)
	answers(t, "put a", first.Put([]byte("a"), []byte("1")), api.OK)
	if value, is, err := second.Get([]byte("a")); len(value) > 0 || is || err != api.OK {
		t.Errorf("get a: %q, %v, %v", value, is, err)
	}
	answers(t, "put b", second.Put([]byte("b"), []byte("2")), api.OK)
	answers(t, "commit of the first", first.Commit(), api.OK)
	answers(t, "commit of the second", second.Commit(), api.ErrOccConflict)
	if l, err := db.Flush(); err != api.OK || len(l) != 1 || l[0] != (api.Done{ID: 0, Seq: 1}) {
		t.Errorf("flush: %v, %v", l, err)
	}
	third := db.Begin(0)
	if value, is, err := third.Get([]byte("a")); string(value) != "1" || !is || err != api.OK {
		t.Errorf("get a: %q, %v, %v", value, is, err)
	}
	if value, is, err := third.Get([]byte("b")); len(value) > 0 || is || err != api.OK {
		t.Errorf("get b: %q, %v, %v", value, is, err)
	}
}

// TestFirstExampleWithoutTheGet: both wait.
func TestFirstExampleWithoutTheGet(t *testing.T) {
	db := created(t, newDisk(t, 100))
	first, second := db.Begin(0), db.Begin(0)
	first.Put([]byte("a"), []byte("1"))
	second.Put([]byte("b"), []byte("2"))
	answers(t, "commit of the first", first.Commit(), api.OK)
	answers(t, "commit of the second", second.Commit(), api.OK)
	if db.Waiting() != 2 || db.Live() != 0 || db.Seq() != 0 {
		t.Errorf("%d wait, %d live, %d", db.Waiting(), db.Live(), db.Seq())
	}
	l, err := db.Flush()
	if err != api.OK || len(l) != 2 || l[0] != (api.Done{ID: 0, Seq: 1}) || l[1] != (api.Done{ID: 1, Seq: 2}) {
		t.Errorf("flush: %v, %v", l, err)
	}
	if db.Waiting() != 0 || db.Seq() != 2 {
		t.Errorf("%d wait, %d", db.Waiting(), db.Seq())
	}
}

// TestSecondExample is the chapter's.
func TestSecondExample(t *testing.T) {
	for key, want := range map[string]api.Errno{"bb": api.OK, "aa": api.ErrOccConflict} {
		db := created(t, newDisk(t, 100))
		x := db.Begin(0)
		x.Put([]byte("b"), []byte("1"))
		answers(t, "commit", x.Commit(), api.OK)
		db.Flush()
		reader, other := db.Begin(0), db.Begin(0)
		pair, is, err := reader.Next([]byte("a"), []byte("c"), false)
		if string(pair.Key) != "b" || string(pair.Value) != "1" || !is || err != api.OK {
			t.Errorf("next: %q, %v, %v", pair.Key, is, err)
		}
		reader.Put([]byte("x"), nil)
		other.Put([]byte(key), nil)
		answers(t, "commit of the other", other.Commit(), api.OK)
		answers(t, "commit behind a put of "+key, reader.Commit(), want)
	}
}

// TestThirdExample is the chapter's.
func TestThirdExample(t *testing.T) {
	db := created(t, newDisk(t, 100))
	reader, other := db.Begin(0), db.Begin(0)
	reader.Get([]byte("a"))
	reader.Next(nil, nil, true)
	other.Put([]byte("a"), nil)
	answers(t, "commit of the other", other.Commit(), api.OK)
	db.Flush()
	answers(t, "commit of one that only reads", reader.Commit(), api.OK)
	if db.Waiting() != 0 || db.Seq() != 1 {
		t.Errorf("%d wait, %d", db.Waiting(), db.Seq())
	}
	x := db.Begin(0)
	answers(t, "put of 04 00", x.Put([]byte{4, 0}, nil), api.ErrArg)
	answers(t, "commit", x.Commit(), api.OK)
	_, _, err := x.Get([]byte("a"))
	answers(t, "get behind the commit", err, api.ErrEnded)
}

// TestBegin: IDs go on, Now is what was said, Seq the database's; also behind Open, where IDs begin anew.
func TestBegin(t *testing.T) {
	d := newDisk(t, 100)
	db := created(t, d)
	for round := range 3 {
		for id, now := range []int64{0, 5, -1, -1 << 63, 1<<63 - 1, 5} {
			x := db.Begin(now)
			if x.ID() != id || x.Now() != now || x.Seq() != uint64(round*5) || db.Seq() != x.Seq() {
				t.Errorf("ID %d, Now %d, Seq %d of %d", x.ID(), x.Now(), x.Seq(), db.Seq())
			}
			x.Put([]byte("a"), nil)
			if id == 4 {
				x.Abort()
				continue
			}
			answers(t, "commit", x.Commit(), api.OK)
			if x.ID() != id || x.Now() != now || x.Seq() != uint64(round*5) {
				t.Errorf("ended: ID %d, Now %d, Seq %d", x.ID(), x.Now(), x.Seq())
			}
		}
		db.Flush()
		db = opened(t, d)
		if db.Waiting() != 0 || db.Live() != 0 || db.Space().Snaps != 0 {
			t.Errorf("opened: %d wait, %d live, %+v", db.Waiting(), db.Live(), db.Space())
		}
	}
}

// TestOfManyAtATime: each is told by its own ID, and ends for itself.
func TestOfManyAtATime(t *testing.T) {
	db := created(t, newDisk(t, 100))
	var all []*occ.Txn
	for id := range 3000 {
		x := db.Begin(int64(id))
		if x.ID() != id || db.Live() != id+1 {
			t.Fatalf("ID %d of %d", x.ID(), db.Live())
		}
		all = append(all, x)
	}
	for at := range all {
		x := all[at*7%len(all)]
		answers(t, "abort", x.Abort(), api.OK)
		if got := db.Space().Snaps; db.Live() != len(all)-at-1 || got != db.Live() {
			t.Fatalf("%d live, %d snapshots", db.Live(), got)
		}
	}
}

// TestWhatWaitsIsNotThere: what waits is not in the store: nobody sees it, till it is flushed.
func TestWhatWaitsIsNotThere(t *testing.T) {
	w := newTable(t, 200)
	w.commits(put("a", "1"), note("n"))
	early := w.begin(1)
	early.do(get("a"), get(seqKey), get(noteAt(1, 0)), nextOpen("", ""))
	w.flush(api.OK)
	early.do(get("a"), get(seqKey), get(noteAt(1, 0)), nextOpen("", ""), prevOpen("", ""))
	late := w.begin(2)
	late.do(get("a"), get(seqKey), get(noteAt(1, 0)), nextOpen("", ""), prevOpen("", ""))
	late.sees()
	early.sees()
	w.lasts()
}

// TestTheTreesKeys: what a flush lays down, byte by byte.
func TestTheTreesKeys(t *testing.T) {
	d := newDisk(t, 200)
	db := created(t, d)
	for range 258 {
		x := db.Begin(0)
		x.Note([]byte("first"))
		x.Note(nil)
		x.Put([]byte{5}, []byte("five"))
		answers(t, "commit", x.Commit(), api.OK)
		db.Flush()
	}
	x := db.Begin(0)
	for range 258 {
		x.Note([]byte("many"))
	}
	x.Commit()
	db.Flush()
	all := lasting(t, d)
	for key, want := range map[string]string{
		"\x00seq": "\x00\x00\x00\x00\x00\x00\x01\x03",
		"\x05":    "five",
		"\x04\x00\x00\x00\x00\x00\x00\x00\x01\x00\x00": "first",
		"\x04\x00\x00\x00\x00\x00\x00\x00\x01\x00\x01": "",
		"\x04\x00\x00\x00\x00\x00\x00\x01\x02\x00\x00": "first",
		"\x04\x00\x00\x00\x00\x00\x00\x01\x03\x00\x00": "many",
		"\x04\x00\x00\x00\x00\x00\x00\x01\x03\x01\x01": "many",
	} {
		if got, is := all[key]; got != want || !is {
			t.Errorf("%q: %q, %v", key, got, is)
		}
	}
	if len(all) != 2+258*2+258 {
		t.Errorf("%d keys", len(all))
	}
}
