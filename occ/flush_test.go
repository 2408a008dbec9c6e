package occ_test

import (
	"fmt"
	"maps"
	"math"
	"slices"
	"strings"
	"testing"

	"codicil/api"
	"codicil/commit"
	"codicil/disk"
	"codicil/occ"
)

// TestFlushOfNothing does no operation, and tells nothing; also where others are live, and where one waited that was flushed.
func TestFlushOfNothing(t *testing.T) {
	w := newTable(t, 100)
	for range 2 {
		for range 3 {
			before := w.disk.Counts()
			if l := w.flush(api.OK); len(l) != 0 || w.disk.Counts() != before {
				t.Errorf("%v, %+v", l, w.disk.Counts())
			}
		}
		w.begin(0).do(put("a", "1"))
		w.begin(0).do(put("a", "1"), abort())
		w.begin(0).do(get("a"), finish())
		w.flush(api.OK)
		w.commits(put("a", "1"))
		w.flush(api.OK)
	}
	w.disk.Trip(0)
	w.flush(api.OK)
}

// TestFlushOfMany: Done in the order in which they committed, whichever began first; one Apply for all.
func TestFlushOfMany(t *testing.T) {
	w := newTable(t, 200)
	number := uint64(0)
	for _, many := range []int{1, 2, 3, 64, 63, 1, 10} {
		var all []*seat
		for n := range many {
			all = append(all, w.begin(0).do(put(fmt.Sprintf("key %d", n%7), fmt.Sprint(n)), note(fmt.Sprint(n))))
		}
		want := []api.Done{}
		for n := range many {
			number++
			s := all[many-1-n]
			s.ends(api.OK)
			want = append(want, api.Done{ID: s.real.ID(), Seq: number})
		}
		generation := w.db.Space().Current
		if l := w.flush(api.OK); !slices.Equal(l, want) {
			t.Errorf("%v, not %v", l, want)
		}
		if got := w.db.Space().Current; got != generation+1 || w.db.Seq() != number {
			t.Errorf("generation %d behind %d, Seq %d", got, generation, w.db.Seq())
		}
		w.lasts()
	}
	w.serial()
}

// TestTheLastOneCounts: of several that wrote one key, in the order in which they committed.
func TestTheLastOneCounts(t *testing.T) {
	for last := range 4 {
		w := base(t)
		all := []*seat{
			w.begin(0).do(put("b", "first"), put("a", "first")), w.begin(0).do(del("b"), put("a", "second")),
			w.begin(0).do(put("b", "third"), del("a")), w.begin(0).do(put("b", ""), put("a", "fourth"), del("a")),
		}
		for n := range all {
			all[(last+n)%4].ends(api.OK)
		}
		w.flush(api.OK)
		w.lasts()
		w.begin(0).sees()
		w.serial()
	}
}

// TestNumbersThatWereNotUsed are given anew, in notes too; those of the IDs are not.
func TestNumbersThatWereNotUsed(t *testing.T) {
	w := base(t)
	for range 3 {
		for range 3 {
			w.commits(put("lost", "1"), note("lost"))
			w.commits(put("lost too", "1"))
			w.disk.Fail(syncKind, 0)
			if l := w.flush(api.ErrIO); len(l) != 2 || l[0].Seq != 0 || l[1].Err != api.ErrIO || l[0].ID+1 != l[1].ID {
				t.Errorf("%v", l)
			}
			w.lasts()
			w.begin(0).do(get("lost"), get(noteAt(w.plain.seq()+1, 0)), finish())
		}
		seq := w.db.Seq()
		w.commits(note("there"))
		if l := w.flush(api.OK); l[0].Seq != seq+1 {
			t.Errorf("%v behind %d", l, seq)
		}
		w.lasts()
	}
	w.serial()
}

// TestSpaceAtEachStep: what the store tells, with a snapshot for each that is live.
func TestSpaceAtEachStep(t *testing.T) {
	d := newDisk(t, 100)
	db := created(t, d)
	tells := func(keys, snaps int, generation uint64) {
		t.Helper()
		s := db.Space()
		if s.Pages != 100 || s.Keys != keys || s.Snaps != snaps || s.Current != generation || s.Broken || s.Tree+s.Listed+s.Free+s.Held+2 != s.Pages {
			t.Errorf("%+v, not %d keys, %d snapshots, generation %d", s, keys, snaps, generation)
		}
	}
	tells(0, 0, 1)
	x := db.Begin(0)
	y := db.Begin(0)
	tells(0, 2, 1)
	x.Put([]byte("a"), []byte(strings.Repeat("v", 3000)))
	x.Note(nil)
	x.Commit()
	tells(0, 1, 1)
	db.Flush()
	tells(3, 1, 2)
	z := db.Begin(0)
	tells(3, 2, 2)
	z.Delete([]byte("a"))
	z.Commit()
	db.Flush()
	tells(2, 1, 3)
	if got := db.Space().Held; got != 0 {
		t.Errorf("%d are held for a snapshot without keys", got)
	}
	y.Abort()
	tells(2, 0, 3)
	reader := db.Begin(0)
	x = db.Begin(0)
	x.Put([]byte("a"), nil)
	x.Commit()
	db.Flush()
	tells(3, 1, 4)
	if got := db.Space().Held; got == 0 {
		t.Error("nothing is held for a snapshot")
	}
	reader.Commit()
	tells(3, 0, 4)
	if got := db.Space().Held; got != 0 {
		t.Errorf("%d are held for nobody", got)
	}
	if got := opened(t, d).Space(); got != db.Space() {
		t.Errorf("opened: %+v, not %+v", got, db.Space())
	}
}

// TestAFullDisk: ErrFull of a batch that does not fit; it leaves nothing, and smaller ones go on.
func TestAFullDisk(t *testing.T) {
	w := newTable(t, 30)
	w.commits(put("b", "1"), put("great", strings.Repeat("v", 3000)))
	w.flush(api.OK)
	reader := w.begin(0).do(get("b"))
	for range 5 {
		w.commits(put("b", "2"))
		w.commits(put("c", strings.Repeat("v", 8192)), note("n"))
		w.commits(put("d", strings.Repeat("v", 8192)), put("e", strings.Repeat("v", 8192)))
		w.flush(api.ErrFull)
		w.lasts()
		reader.sees()
		w.begin(0).do(get("c"), get("b"), nextOpen("", ""), abort())
		w.commits(put("b", "3"))
		w.flush(api.OK)
		w.lasts()
	}
	reader.do(put("own", "1"))
	reader.ends(api.ErrOccConflict)
	w.serial()
}

// TestAFullBatch: 64 of many keys and notes each.
func TestAFullBatch(t *testing.T) {
	w := newTable(t, 8000)
	for n := range 64 {
		s := w.begin(0)
		for k := range 200 {
			key, value := fmt.Appendf(nil, "key %05d", (n*97+k*13)%5000), fmt.Appendf(nil, "%d of %d", k, n)
			s.real.Put(key, value)
			s.plain.Put(key, value)
			s.real.Note(value)
			s.plain.Note(value)
		}
		s.ends(api.OK)
	}
	if l := w.flush(api.OK); len(l) != 64 || l[63].Seq != 64 {
		t.Errorf("%d are done", len(l))
	}
	w.lasts()
}

// scene is a database ahead of a flush, by its disk's bytes.
type scene struct {
	image    []byte
	old, new map[string]string
	seq      uint64
}

// newScene has some keys, great ones too, and free pages.
func newScene(t testing.TB) scene {
	t.Helper()
	w := newTable(t, 120)
	s := w.begin(0)
	for n := range 40 {
		s.do(put(fmt.Sprintf("key %02d", n), strings.Repeat("v", n)))
	}
	s.do(put("great", strings.Repeat("g", 5000)), note("n"))
	s.ends(api.OK)
	w.flush(api.OK)
	w.commits(del("key 03"), del("key 04"))
	w.flush(api.OK)
	c := scene{image: w.disk.Image(), old: w.plain.now, seq: w.plain.seq()}
	for _, l := range c.batch() {
		w.commits(l...)
	}
	w.flush(api.OK)
	c.new = w.plain.now
	return c
}

// batch are the steps of those that wait.
func (c scene) batch() [][]step {
	return [][]step{
		{put("a", strings.Repeat("v", 2000)), del("great"), note("first")},
		{put("key 07", "other"), note("second"), note("more")},
		{del("a"), put("z", "1"), put("key 08", strings.Repeat("v", 100))},
	}
}

// waits is a table of it in which the batch waits.
func (c scene) waits(t testing.TB) *table {
	t.Helper()
	d := loaded(t, c.image)
	w := tableOf(t, d, opened(t, d))
	for _, l := range c.batch() {
		w.commits(l...)
	}
	return w
}

// costs are the operations of the flush.
func (c scene) costs(t testing.TB) [4]int {
	t.Helper()
	w := c.waits(t)
	before := w.disk.Counts()
	w.flush(api.OK)
	after := w.disk.Counts()
	return [4]int{readKind: after.Reads - before.Reads, writeKind: after.Writes - before.Writes, syncKind: after.Syncs - before.Syncs}
}

// TestFaultsOfAFlush: each operation of it in turn. Nothing is in the store, and none waits; the same ones, begun anew, get the same numbers.
func TestFaultsOfAFlush(t *testing.T) {
	c := newScene(t)
	costs := c.costs(t)
	if costs[writeKind] < 3 || costs[syncKind] != 2 {
		t.Errorf("%v", costs)
	}
	for kind := readKind; kind <= syncKind; kind++ {
		for n := range costs[kind] {
			w := c.waits(t)
			reader := w.begin(0).do(get("a"), get("z"), get("key 07"))
			w.disk.Fail(kind, n)
			w.flush(api.ErrIO)
			reader.sees()
			w.begin(0).sees()
			if kind != readKind && n == costs[kind]-1 {
				c.broke(t, w, kind)
				continue
			}
			w.lasts()
			for _, l := range c.batch() {
				w.commits(l...)
			}
			w.flush(api.OK)
			w.lasts()
			reader.do(put("own", "1"))
			reader.ends(api.ErrOccConflict)
			if !maps.Equal(w.plain.now, c.new) {
				t.Errorf("fault %d of kind %d: behind it the batch is another one", n, kind)
			}
		}
	}
}

// broke looks at a database whose store is broken: it is read as ever, but each flush tells it, till it is opened again; then all of the batch is there, or nothing.
func (c scene) broke(t *testing.T, w *table, kind int) {
	t.Helper()
	for range 2 {
		if !w.db.Space().Broken {
			t.Error("the store is not broken")
		}
		w.flush(api.OK)
		w.commits(put("more", "1"))
		w.flush(api.ErrCommitBroken)
		w.begin(0).sees()
	}
	want, seq := c.old, c.seq
	if kind == syncKind { // the state was written, and is still in the cache
		want, seq = c.new, c.seq+3
	}
	db := opened(t, w.disk)
	if db.Seq() != seq || db.Space().Keys != len(want) || db.Space().Broken {
		t.Errorf("opened: Seq %d, %+v", db.Seq(), db.Space())
	}
	has(t, db, want)
	x := db.Begin(0)
	x.Note([]byte("on"))
	answers(t, "commit", x.Commit(), api.OK)
	if l, err := db.Flush(); err != api.OK || l[0].Seq != seq+1 {
		t.Errorf("flush: %v, %v", l, err)
	}
}

// has looks whether a transaction sees just these pairs.
func has(t testing.TB, db *occ.DB, want map[string]string) {
	t.Helper()
	x := db.Begin(0)
	defer x.Abort()
	got := map[string]string{}
	var from []byte
	for {
		pair, is, err := x.Next(from, nil, true)
		if err != api.OK {
			t.Fatal(err)
		}
		if !is {
			break
		}
		got[string(pair.Key)] = string(pair.Value)
		from = append(pair.Key, 0)
	}
	if !maps.Equal(got, want) {
		t.Errorf("%d keys, not %d as they are to be", len(got), len(want))
	}
	if want := want[seqKey]; want != bigEndian(db.Seq()) && !(want == "" && db.Seq() == 0) {
		t.Errorf("the state tells %q, Seq %d", want, db.Seq())
	}
}

// keeps are ways in which a cut may keep some of n writes.
func keeps(n int) [][]bool {
	out := [][]bool{nil}
	for _, kept := range []func(at int) bool{
		func(int) bool { return true },
		func(at int) bool { return at%2 == 0 },
		func(at int) bool { return at < n/2 },
		func(at int) bool { return at == n-1 },
		func(at int) bool { return at != n-1 },
	} {
		keep := make([]bool, n)
		for at := range keep {
			keep[at] = kept(at)
		}
		out = append(out, keep)
	}
	return out
}

// TestPowerThatGoesInAFlush, anywhere: what is opened behind it has all of the batch, or nothing of it; all of it, if it was told so.
func TestPowerThatGoesInAFlush(t *testing.T) {
	c := newScene(t)
	costs := c.costs(t)
	most := costs[readKind] + costs[writeKind] + costs[syncKind]
	seen := map[uint64]int{}
	for n := range most + 1 {
		for at := range keeps(1) {
			w := c.waits(t)
			reader := w.begin(0)
			w.disk.Trip(n)
			want := api.ErrDark
			if n == most {
				want = api.OK
			}
			w.flush(want)
			if want == api.ErrDark {
				w.commits(put("dark", "1"))
				l, err := w.db.Flush()
				if err == api.OK || len(l) != 1 || l[0] != (api.Done{ID: l[0].ID, Err: err}) {
					t.Errorf("flush in the dark: %v, %v", l, err)
				}
			}
			if _, err := occ.Open(w.disk); want == api.ErrDark && err != api.ErrDark {
				t.Errorf("open in the dark: %v", err)
			}
			w.disk.Cut(keeps(len(w.disk.Pending()))[at]...)
			db := opened(t, w.disk)
			seen[db.Seq()]++
			switch {
			case db.Seq() == c.seq && want == api.ErrDark:
				has(t, db, c.old)
			case db.Seq() == c.seq+3:
				has(t, db, c.new)
			default:
				t.Errorf("trip %d: Seq %d", n, db.Seq())
			}
			if reader.real.Abort() != api.OK {
				t.Error("one that was live does not end")
			}
		}
	}
	if seen[c.seq] < 10 || seen[c.seq+3] < 5 {
		t.Errorf("%v", seen)
	}
}

// TestFaultsOfReads: Get, Next and Prev tell an operation's error, and nothing is read by it; asked again they tell what is there.
func TestFaultsOfReads(t *testing.T) {
	image := manyPages(t)
	for name, ask := range map[string]step{"get": get("key 30"), "next": next("key 30", "key 31"), "prev": prev("key 30", "key 30+"), "next without end": nextOpen("key 30", ""), "none": get("long 1 500"), "prev of none": prev("long 1 500", "long 1 500 ")} {
		d := loaded(t, image)
		db := opened(t, d)
		before := d.Counts().Reads
		want := ask.do(db.Begin(0))
		reads := d.Counts().Reads - before
		if reads < 1 {
			t.Errorf("%s reads %d", name, reads)
		}
		for n := range reads {
			for _, err := range []api.Errno{api.ErrIO, api.ErrDark} {
				d := loaded(t, image)
				db := opened(t, d)
				x := db.Begin(0)
				if err == api.ErrIO {
					d.Fail(readKind, n)
				} else {
					d.Trip(n)
				}
				if got := ask.do(x); !strings.HasSuffix(got, err.Error()) || strings.Contains(got, "true") || strings.Contains(got, "k") {
					t.Errorf("%s: %.100s, not %v", name, got, err)
				}
				d.Cut()
				other := db.Begin(0)
				other.Put([]byte("key 30"), nil)
				other.Put([]byte("long 1 500"), nil)
				answers(t, "commit of another one", other.Commit(), api.OK)
				x.Put([]byte("own"), nil)
				answers(t, "a span without keys", failsNot(x, d), api.OK)
				answers(t, name+": commit of one that has read nothing", x.Commit(), api.OK)
				again := db.Begin(0)
				if got := ask.do(again); got != want {
					t.Errorf("%s: %.100s, not %.100s", name, got, want)
				}
				again.Put([]byte("own"), nil)
				answers(t, name+": commit of one that has read", again.Commit(), api.ErrOccConflict)
			}
		}
	}
}

// failsNot asks what needs no operation, of a disk that fails.
func failsNot(x *occ.Txn, d *disk.Disk) api.Errno {
	d.Trip(0)
	defer d.Cut()
	_, _, err := x.Next([]byte("b"), []byte("b"), false)
	if err == api.OK {
		_, _, err = x.Prev([]byte("b"), []byte("a"), false)
	}
	if err == api.OK {
		_, _, err = x.Get([]byte("own"))
	}
	return err
}

// manyPages is a disk whose tree has more pages than are kept at hand, of great values and of nodes.
func manyPages(t testing.TB) []byte {
	t.Helper()
	d := newDisk(t, 2000)
	db := created(t, d)
	for part := range 3 {
		x := db.Begin(0)
		for n := range 930 {
			x.Put(fmt.Appendf(nil, "long %d %03d %s", part, n, strings.Repeat("k", 140)), nil)
		}
		for n := range 20 {
			x.Put(fmt.Appendf(nil, "key %02d", part*20+n), []byte(strings.Repeat("v", 8192)))
		}
		answers(t, "commit", x.Commit(), api.OK)
		if _, err := db.Flush(); err != api.OK {
			t.Fatal(err)
		}
	}
	return d.Image()
}

// TestNumbersOfAnySize: they go on from the one that the disk has.
func TestNumbersOfAnySize(t *testing.T) {
	for _, number := range []uint64{0, 1, 255, 256, 1 << 32, 1<<62 - 1, 1 << 62, 1 << 63, math.MaxUint64 - 3} {
		d := newDisk(t, 100)
		store, err := commit.Create(d)
		if err != api.OK {
			t.Fatal(err)
		}
		store.Apply([]api.Change{{Key: []byte(seqKey), Value: []byte(bigEndian(number))}, {Key: []byte("b"), Value: []byte("1")}})
		w := tableOf(t, d, opened(t, d))
		reader := w.begin(0).do(get("b"), get(seqKey), get(noteAt(number+2, 0)), put("own", "1"))
		for range 3 {
			w.commits(note("n"))
		}
		w.flush(api.OK)
		w.lasts()
		if w.db.Seq() != number+3 || opened(t, d).Seq() != number+3 {
			t.Errorf("%d behind %d", w.db.Seq(), number)
		}
		reader.ends(api.ErrOccConflict)
	}
}
