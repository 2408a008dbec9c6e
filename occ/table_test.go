package occ_test

import (
	"fmt"
	"maps"
	"slices"
	"strings"
	"testing"

	"codicil/api"
	"codicil/commit"
	"codicil/disk"
	"codicil/occ"
)

// The kinds of operations, as a disk's Fail names them.
const (
	readKind  = 1
	writeKind = 2
	syncKind  = 3
)

// txn is what a transaction is asked, be it the program's or a plain one.
type txn interface {
	ID() int
	Seq() uint64
	Now() int64
	Get(key []byte) ([]byte, bool, api.Errno)
	Next(from, to []byte, open bool) (api.Pair, bool, api.Errno)
	Prev(from, to []byte, open bool) (api.Pair, bool, api.Errno)
	Put(key, value []byte) api.Errno
	Delete(key []byte) api.Errno
	Note(b []byte) api.Errno
	Try(f func() api.Errno) api.Errno
	Commit() api.Errno
	Abort() api.Errno
}

// step is a call of a transaction, with what it tells as a text.
type step struct {
	name string
	do   func(x txn) string
}

func short(text string) string {
	if len(text) > 20 {
		return fmt.Sprintf("%q..%d", text[:20], len(text))
	}
	return fmt.Sprintf("%q", text)
}

func toldPair(p api.Pair, is bool, err api.Errno) string {
	return fmt.Sprintf("%q %q %v %v", p.Key, p.Value, is, err)
}

func get(key string) step {
	return step{"get " + short(key), func(x txn) string {
		value, is, err := x.Get([]byte(key))
		return fmt.Sprintf("%q %v %v", value, is, err)
	}}
}

func next(from, to string) step {
	return step{"next " + short(from) + " " + short(to), func(x txn) string { return toldPair(x.Next([]byte(from), []byte(to), false)) }}
}

func prev(from, to string) step {
	return step{"prev " + short(from) + " " + short(to), func(x txn) string { return toldPair(x.Prev([]byte(from), []byte(to), false)) }}
}

// nextOpen is without end; its to is not to be looked at.
func nextOpen(from, to string) step {
	return step{"next " + short(from) + ".. " + short(to), func(x txn) string { return toldPair(x.Next([]byte(from), []byte(to), true)) }}
}

func prevOpen(from, to string) step {
	return step{"prev " + short(from) + ".. " + short(to), func(x txn) string { return toldPair(x.Prev([]byte(from), []byte(to), true)) }}
}

func put(key, value string) step {
	return step{"put " + short(key) + " " + short(value), func(x txn) string { return x.Put([]byte(key), []byte(value)).Error() }}
}

func del(key string) step {
	return step{"delete " + short(key), func(x txn) string { return x.Delete([]byte(key)).Error() }}
}

func note(text string) step {
	return step{"note " + short(text), func(x txn) string { return x.Note([]byte(text)).Error() }}
}

func finish() step { return step{"commit", func(x txn) string { return x.Commit().Error() }} }

func abort() step { return step{"abort", func(x txn) string { return x.Abort().Error() }} }

// try is a Try whose function does some steps and answers an error.
func try(err api.Errno, l ...step) step {
	var names []string
	for _, s := range l {
		names = append(names, s.name)
	}
	return step{fmt.Sprintf("try (%s) %d", strings.Join(names, "; "), err), func(x txn) string {
		var out []string
		got := x.Try(func() api.Errno {
			for _, s := range l {
				out = append(out, s.do(x))
			}
			return err
		})
		return strings.Join(append(out, got.Error()), "; ")
	}}
}

func newDisk(t testing.TB, pages int) *disk.Disk {
	t.Helper()
	d, err := disk.New(pages)
	if err != api.OK {
		t.Fatal(err)
	}
	return d
}

func loaded(t testing.TB, image []byte) *disk.Disk {
	t.Helper()
	d, err := disk.Load(image)
	if err != api.OK {
		t.Fatal(err)
	}
	return d
}

func created(t testing.TB, d *disk.Disk) *occ.DB {
	t.Helper()
	db, err := occ.Create(d)
	if err != api.OK || db == nil {
		t.Fatalf("Create: %v", err)
	}
	return db
}

func opened(t testing.TB, d *disk.Disk) *occ.DB {
	t.Helper()
	db, err := occ.Open(d)
	if err != api.OK || db == nil {
		t.Fatalf("Open: %v", err)
	}
	return db
}

// lasting is all that the bytes of a disk have that last, read without the layer.
func lasting(t testing.TB, d *disk.Disk) map[string]string {
	t.Helper()
	store, err := commit.Open(loaded(t, d.Image()))
	if err != api.OK {
		t.Fatal(err)
	}
	out := map[string]string{}
	snap := store.Snap()
	for pair, is, err := snap.Next(nil, true); is || err != api.OK; pair, is, err = snap.Next(pair.Key, false) {
		if err != api.OK {
			t.Fatal(err)
		}
		out[string(pair.Key)] = string(pair.Value)
	}
	return out
}

// table is a database and a plain one, at which the same is done.
type table struct {
	testing.TB
	disk  *disk.Disk
	db    *occ.DB
	plain *plainDB
	base  uint64 // the generation that the store began with
	seats []*seat
	text  []string // what was done, for the text of a failure
}

// seat is a transaction, and a plain one.
type seat struct {
	table *table
	real  *occ.Txn
	plain *plainTxn
	log   []played
}

// played is a step, and what was told.
type played struct {
	step
	told string
}

func newTable(t testing.TB, pages int) *table {
	t.Helper()
	d := newDisk(t, pages)
	return tableOf(t, d, created(t, d))
}

// tableOf is a table of a database that a disk has.
func tableOf(t testing.TB, d *disk.Disk, db *occ.DB) *table {
	t.Helper()
	w := &table{TB: t, disk: d, db: db, plain: newPlain(lasting(t, d), db.Seq()), base: db.Space().Current}
	w.numbers()
	return w
}

// done is what was done last.
func (w *table) done() string {
	l := w.text[max(0, len(w.text)-40):]
	return fmt.Sprintf("behind %d and %s", len(w.text)-len(l), strings.Join(l, "; "))
}

// numbers looks at all that the database tells of itself.
func (w *table) numbers() {
	w.Helper()
	got := []int{int(w.db.Seq()), w.db.Waiting(), w.db.Live()}
	if want := []int{int(w.plain.seq()), len(w.plain.waiting), w.plain.live}; !slices.Equal(got, want) {
		w.Fatalf("%s: Seq, Waiting, Live %v, not %v", w.done(), got, want)
	}
	s := w.db.Space()
	if s.Snaps != w.plain.live || s.Keys != len(w.plain.now) || s.Current != w.base+uint64(w.plain.applied) || s.Pages != w.disk.Pages() {
		w.Fatalf("%s: %+v, of %d live and %d keys, behind %d flushes", w.done(), s, w.plain.live, len(w.plain.now), w.plain.applied)
	}
}

func (w *table) begin(now int64) *seat {
	w.Helper()
	s := &seat{table: w, real: w.db.Begin(now), plain: w.plain.begin(now)}
	if s.real == nil {
		w.Fatal("Begin told nothing")
	}
	w.text = append(w.text, fmt.Sprintf("begin %d", s.plain.id))
	w.seats = append(w.seats, s)
	s.tells()
	w.numbers()
	return s
}

// tells looks at what a transaction tells of itself, also behind its end.
func (s *seat) tells() {
	s.table.Helper()
	if x, y := s.real, s.plain; x.ID() != y.ID() || x.Seq() != y.Seq() || x.Now() != y.Now() {
		s.table.Fatalf("%s: ID %d, Seq %d, Now %d, not %d, %d, %d", s.table.done(), x.ID(), x.Seq(), x.Now(), y.ID(), y.Seq(), y.Now())
	}
}

// do does steps at both, and looks whether they tell the same.
func (s *seat) do(l ...step) *seat {
	w := s.table
	w.Helper()
	for _, x := range l {
		w.text = append(w.text, fmt.Sprintf("%d %s", s.plain.id, x.name))
		got, want := x.do(s.real), x.do(s.plain)
		if got != want {
			w.Fatalf("%s: %.300s, not %.300s", w.done(), got, want)
		}
		s.log = append(s.log, played{x, got})
		s.tells()
		w.numbers()
	}
	return s
}

// commits is a transaction of its own that does some steps and commits.
func (w *table) commits(l ...step) *seat {
	w.Helper()
	s := w.begin(0).do(l...)
	s.ends(api.OK)
	return s
}

// ends commits, which must answer as is told.
func (s *seat) ends(want api.Errno) {
	s.table.Helper()
	s.do(finish())
	if got := s.log[len(s.log)-1].told; got != want.Error() {
		s.table.Fatalf("%s: %s, not %v", s.table.done(), got, want)
	}
}

// flush flushes, which must answer as is told.
func (w *table) flush(want api.Errno) []api.Done {
	w.Helper()
	w.text = append(w.text, "flush")
	got, err := w.db.Flush()
	done := w.plain.flush(want)
	if err != want || !slices.Equal(got, done) {
		w.Fatalf("%s: %v, %v, not %v, %v", w.done(), got, err, done, want)
	}
	w.numbers()
	return got
}

// lasts looks whether the disk has just what was flushed.
func (w *table) lasts() {
	w.Helper()
	if got, want := lasting(w, w.disk), w.plain.now; !maps.Equal(got, want) {
		w.Fatalf("%s: %d keys last, and not %d as they are to be", w.done(), len(got), len(want))
	}
}

// sees walks up and down through all that a transaction sees; the keys that it goes through are read by both.
func (s *seat) sees() {
	s.table.Helper()
	keys, _ := s.plain.within(stretch{open: true})
	for at := range len(keys) + 1 {
		from := ""
		if at > 0 {
			from = keys[at-1] + "\x00"
		}
		s.do(nextOpen(from, ""))
	}
	s.do(prevOpen("", ""))
	for _, key := range slices.Backward(keys) {
		s.do(prev("", key), get(key))
	}
}

// serial plays those that were flushed again, one behind the other, each alone, in another database: they are told the same, and leave the same. Those that only read come where their snapshot was.
func (w *table) serial() {
	w.Helper()
	if len(w.plain.first) > 0 {
		w.Fatal("the database had something ahead of all")
	}
	d := newDisk(w, w.disk.Pages())
	db := created(w, d)
	for {
		for _, s := range w.seats {
			if s.plain.seq == db.Seq() && s.isReader() {
				s.again(db)
			}
		}
		at := int(db.Seq())
		if at == len(w.plain.row) {
			break
		}
		w.seats[w.plain.row[at].id].again(db)
		if l, err := db.Flush(); err != api.OK || len(l) != 1 || l[0].Seq != uint64(at)+1 {
			w.Fatalf("played again: %v, %v", l, err)
		}
	}
	if got, want := lasting(w, d), lasting(w, w.disk); !maps.Equal(got, want) {
		w.Fatalf("%s: played again %d keys last, and %d", w.done(), len(got), len(want))
	}
}

func (s *seat) isReader() bool {
	return s.plain.ended && len(s.plain.row) == 0 && len(s.plain.notes) == 0
}

// again plays a transaction in another database. That 64 waited it was told by no key.
func (s *seat) again(db *occ.DB) {
	s.table.Helper()
	x := db.Begin(s.plain.now)
	for _, p := range s.log {
		if p.told == api.ErrOccMany.Error() && p.name == "commit" {
			continue
		}
		if got := p.do(x); got != p.told {
			s.table.Fatalf("%s: played again %d: %s tells %.300s, not %.300s", s.table.done(), s.plain.id, p.name, got, p.told)
		}
	}
}
