package occ_test

import (
	"fmt"
	"math/rand"
	"strings"
	"testing"

	"codicil/api"
	"codicil/occ"
)

// someKeys are the keys of a row: few, so that transactions meet; some lie right behind others.
var someKeys = []string{"a", "b", "b\x00", "bb", "c", "d", "dd", "e", "\x01", "\xff", strings.Repeat("c", 160)}

// someKey is one of a row, at times one of the feed, of the state, or a wrong one.
func someKey(r *rand.Rand, seq uint64) string {
	switch r.Intn(30) {
	case 0, 1:
		return noteAt(seq+uint64(r.Intn(5))-2, r.Intn(3))
	case 2:
		return seqKey
	case 3:
		return []string{"", "\x00", "\x04", strings.Repeat("c", 161), "\x05"}[r.Intn(5)]
	}
	return someKeys[r.Intn(len(someKeys))]
}

func someValue(r *rand.Rand) string {
	size := r.Intn(6)
	switch r.Intn(20) {
	case 0:
		size = 60 + r.Intn(10)
	case 1:
		size = 2000
	}
	return strings.Repeat(string(rune('0'+r.Intn(10))), size)
}

// someStep is a call of a transaction; the reading ones read few keys, so that not all conflicts.
func someStep(r *rand.Rand, seq uint64, depth int) step {
	key, other := someKey(r, seq), someKey(r, seq)
	switch r.Intn(14) {
	case 0, 1:
		return get(key)
	case 2:
		return next(key, other)
	case 3:
		return prev(key, other)
	case 4:
		return []step{nextOpen(key, other), prevOpen(key, other), next("\x01", key), prev(key, "\xff\xff")}[r.Intn(4)]
	case 5, 6, 7, 8:
		return put(key, someValue(r))
	case 9, 10:
		return del(key)
	case 11:
		return note(someValue(r))
	}
	if depth == 3 {
		return get(key)
	}
	var l []step
	for range r.Intn(5) {
		l = append(l, someStep(r, seq, depth+1))
	}
	if r.Intn(30) == 0 {
		l = append(l, []step{finish(), abort()}[r.Intn(2)])
	}
	return try([]api.Errno{api.OK, api.ErrArg, api.ErrFull, 1000}[r.Intn(4)], l...)
}

// fails has a flush go wrong now and then, and tells what it is to answer.
func (w *table) fails(r *rand.Rand) api.Errno {
	if len(w.plain.waiting) == 0 || r.Intn(5) > 0 {
		return api.OK
	}
	w.disk.Fail([]int{writeKind, syncKind}[r.Intn(2)], 0)
	return api.ErrIO
}

// liveOnes are the seats whose transactions have not ended.
func (w *table) liveOnes() []*seat {
	var out []*seat
	for _, s := range w.seats[max(0, len(w.seats)-200):] {
		if !s.plain.ended {
			out = append(out, s)
		}
	}
	return out
}

// row does a long row of drawn calls, with up to some transactions at a time.
func (w *table) row(r *rand.Rand, calls, most int) {
	w.Helper()
	for range calls {
		live := w.liveOnes()
		switch n := r.Intn(40); {
		case n < 6 && len(live) < most || len(live) == 0:
			w.begin(r.Int63() - 1<<62)
		case n < 29:
			live[r.Intn(len(live))].do(someStep(r, w.plain.seq(), 0))
		case n < 35:
			live[r.Intn(len(live))].do(finish())
		case n == 35:
			live[r.Intn(len(live))].do(abort())
		case n == 36:
			w.seats[r.Intn(len(w.seats))].do(someStep(r, w.plain.seq(), 0))
		default:
			w.flush(w.fails(r))
		}
	}
}

// TestLongRows: drawn rows of calls of several transactions at a time, against the plain one; played again one behind the other all is as it was.
func TestLongRows(t *testing.T) {
	for seed := range int64(60) {
		r := rand.New(rand.NewSource(seed))
		w := newTable(t, 400)
		w.row(r, 400+int(seed)*10, 1+int(seed)%9)
		for _, s := range w.liveOnes() {
			s.do(finish())
		}
		w.flush(api.OK)
		w.lasts()
		w.begin(0).sees()
		w.serial()
	}
}

// TestRowsAreOfAllKinds: the drawn rows have conflicts and commits enough.
func TestRowsAreOfAllKinds(t *testing.T) {
	told := map[string]int{}
	for seed := range int64(10) {
		w := newTable(t, 400)
		w.row(rand.New(rand.NewSource(seed)), 1000, 5)
		for _, s := range w.seats {
			for _, p := range s.log {
				told[strings.Fields(p.name)[0]+" "+p.told]++
			}
		}
		told["flushed"] += len(w.plain.row)
	}
	for name, least := range map[string]int{"commit " + api.ErrOccConflict.Error(): 100, "commit " + api.OK.Error(): 100, "abort " + api.OK.Error(): 30, "put " + api.ErrArg.Error(): 10, "put " + api.ErrKeyLong.Error(): 10, "flushed": 100} {
		if told[name] < least {
			t.Errorf("%s: %d", name, told[name])
		}
	}
}

// TestAllShortRows: of two transactions, each of two steps and a commit, one among the other in each order, with a flush between them.
func TestAllShortRows(t *testing.T) {
	steps := []step{get("b"), put("b", "x"), del("b"), next("a", "d"), prev("b\x00", "e"), put("c", "y"), get(noteAt(1, 0)), note("n")}
	orders := []string{"000111", "001011", "001101", "001110", "010011", "010101", "010110", "011001", "011010", "011100"}
	var pairs [][2]step
	for _, x := range steps {
		for _, y := range steps {
			pairs = append(pairs, [2]step{x, y})
		}
	}
	for at, x := range pairs {
		for n, y := range pairs {
			for more := range 2 {
				shortRow(t, x, y, orders[(at*3+n+more*5)%len(orders)], (at*7+n+more)%4)
			}
		}
	}
}

// shortRow runs two transactions in an order; behind how many calls a flush comes is told.
func shortRow(t *testing.T, x, y [2]step, order string, flush int) {
	t.Helper()
	w := newTable(t, 40)
	both := []*seat{w.begin(0), w.begin(0)}
	rest := [][]step{{x[0], x[1], finish()}, {y[0], y[1], finish()}}
	for at, who := range order {
		n := int(who - '0')
		both[n].do(rest[n][0])
		rest[n] = rest[n][1:]
		if at == flush+2 {
			w.flush(api.OK)
		}
	}
	w.flush(api.OK)
	w.serial()
}

// TestRowsOfManyThatWait: up to the most that may wait, with flushes that are seldom.
func TestRowsOfManyThatWait(t *testing.T) {
	full := 0
	for seed := range int64(6) {
		r := rand.New(rand.NewSource(seed))
		w := newTable(t, 600)
		for range 300 {
			for range 3 {
				w.begin(0).do(put(fmt.Sprint("key ", r.Intn(300)), someValue(r)))
			}
			live := w.liveOnes()
			s := live[r.Intn(len(live))]
			s.do(get(fmt.Sprint("key ", r.Intn(300))), finish())
			if s.log[len(s.log)-1].told == api.ErrOccMany.Error() {
				full++
			}
			if r.Intn(100) == 0 {
				w.flush(w.fails(r))
			}
			for _, s := range live[:max(0, len(live)-20)] {
				s.do(abort())
			}
		}
		w.flush(api.OK)
		w.lasts()
		w.serial()
	}
	if full == 0 {
		t.Error("never too many waited")
	}
}

// TestRowsOfCrashes: power goes at any operation, of flushes and of reads, and anything of what was not synced outlives it; what is opened then has all up to some number: all that was told as flushed, and of the batch under way all or nothing.
func TestRowsOfCrashes(t *testing.T) {
	kept := map[bool]int{}
	for seed := range int64(40) {
		r := rand.New(rand.NewSource(seed))
		w := newTable(t, 300)
		w.row(r, 100, 4)
		w.flush(api.OK)
		for range 12 {
			w = w.crash(r, kept)
			w.row(r, 40, 4)
		}
	}
	if kept[false] < 50 || kept[true] < 50 {
		t.Errorf("%v", kept)
	}
}

// crash lets the power go in a flush, or behind one, and tells a table of what is opened then.
func (w *table) crash(r *rand.Rand, kept map[bool]int) *table {
	w.Helper()
	w.flush(api.OK)
	before := w.plain.now
	for range 1 + r.Intn(5) {
		w.begin(0).do(put(someKeys[r.Intn(len(someKeys))], someValue(r)), note("n")).do(finish())
	}
	many := len(w.plain.waiting)
	w.disk.Trip(r.Intn(16))
	_, err := w.db.Flush()
	after := w.plain.now
	if many > 0 {
		w.plain.flush(api.OK)
		after = w.plain.now
	}
	pending := len(w.disk.Pending())
	keep := make([]bool, pending)
	for at := range keep {
		keep[at] = r.Intn(3) > 0
	}
	w.disk.Cut(keep...)
	if r.Intn(3) == 0 {
		w.crashInOpen(r)
	}
	db := opened(w, w.disk)
	isNew := db.Seq() == w.plain.seq()
	if many > 0 {
		kept[isNew]++
	}
	switch {
	case isNew:
		has(w, db, after)
	case err != api.OK && db.Seq()+uint64(many) == w.plain.seq():
		has(w, db, before)
	default:
		w.Fatalf("%s: opened with %d, of %d", w.done(), db.Seq(), w.plain.seq())
	}
	db = opened(w, w.disk)
	return tableOf(w, w.disk, db)
}

// crashInOpen lets the power go while the database is opened.
func (w *table) crashInOpen(r *rand.Rand) {
	w.Helper()
	w.disk.Trip(r.Intn(5))
	if db, err := occ.Open(w.disk); (db == nil) != (err != api.OK) || (err != api.OK && err != api.ErrDark) {
		w.Errorf("Open, as the power goes: %v", err)
	}
	w.disk.Cut()
}
