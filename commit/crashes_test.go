package commit_test

import (
	"maps"
	"math/rand"
	"slices"
	"testing"

	"codicil/api"
	"codicil/commit"
	"codicil/disk"
)

// witness knows which states a disk may have: the one that was told last, and those whose Apply broke a store since.
type witness struct {
	testing.TB
	*rand.Rand
	disk  *disk.Disk
	store *commit.Store
	now   map[string]string // what the store has
	may   []map[string]string
	met   *met
}

// met is how often something was met.
type met struct{ crashes, breaks, loose, full int }

// TestRowsOfCrashes: crash behind crash, and fault behind fault, also in opening, behind a cut and without one, by chance.
func TestRowsOfCrashes(t *testing.T) {
	all := &met{}
	for seed, pages := range []int{200, 200, 200, 90, 90, 60, 45, 38, 30, 30, 24, 24} {
		r := rand.New(rand.NewSource(int64(seed)))
		d := newDisk(t, pages)
		w := &witness{TB: t, Rand: r, disk: d, store: created(t, d), now: map[string]string{}, met: all}
		w.may = []map[string]string{w.now}
		for range 400 {
			w.step()
			if t.Failed() {
				t.Fatalf("seed %d, of %d pages", seed, pages)
			}
		}
	}
	if all.crashes < 500 || all.breaks < 200 || all.loose < 50 || all.full < 50 {
		t.Errorf("%+v", *all)
	}
}

func (w *witness) step() {
	w.Helper()
	l := someChanges(w.Rand, 15)
	if w.Intn(2) == 0 {
		w.disk.Trip(w.Intn(30))
	}
	if w.Intn(3) == 0 {
		w.disk.Fail(1+w.Intn(3), w.Intn(4))
	}
	err := w.store.Apply(l)
	isBroken := w.store.Space().Broken
	switch {
	case err == api.OK:
		w.now = changed(w.now, l)
		w.may = []map[string]string{w.now}
		if w.Intn(4) > 0 {
			return
		}
	case err == api.ErrFull:
		w.met.full++
		w.empty()
		return
	case err != api.ErrIO && err != api.ErrDark:
		w.Errorf("%v", err)
	case isBroken:
		w.met.breaks++
		w.may = append(w.may, changed(w.now, l))
	case w.Intn(2) == 0:
		if w.disk.Dark() {
			w.cut()
		}
		return // a store that is not broken goes on
	}
	w.reopen()
}

// empty takes keys away, if it can, so that there is room again.
func (w *witness) empty() {
	w.Helper()
	if w.disk.Dark() {
		w.cut()
	}
	for key := range w.now {
		l := []api.Change{del(key), put("k", "")}
		if err := w.store.Apply(l); err == api.OK {
			w.now = changed(w.now, l)
			w.may = []map[string]string{w.now}
		} else if w.store.Space().Broken {
			w.may = append(w.may, changed(w.now, l))
			w.reopen()
			return
		}
	}
}

func (w *witness) cut() {
	w.Helper()
	keep := make([]bool, len(w.disk.Pending()))
	chance := 1 + w.Intn(5)
	for at := range keep {
		keep[at] = w.Intn(chance) == 0
	}
	w.disk.Cut(keep...)
	w.met.crashes++
}

// reopen takes the store that the disk has, behind a cut or without one.
func (w *witness) reopen() {
	w.Helper()
	for {
		if w.disk.Dark() || w.Intn(2) == 0 {
			w.cut()
		}
		if w.Intn(4) == 0 {
			w.disk.Trip(w.Intn(12))
		}
		if w.Intn(6) == 0 {
			w.disk.Fail(readKind, w.Intn(6))
		}
		s, err := commit.Open(w.disk)
		if err == api.OK {
			w.store = s
			break
		}
		if err != api.ErrDark && err != api.ErrIO || s != nil {
			w.Fatalf("Open: %v", err)
		}
	}
	w.look()
}

// look looks whether the store has what it may have.
func (w *witness) look() {
	w.Helper()
	if w.disk.Dark() {
		w.cut()
	} else {
		w.disk.Fail(readKind, 1<<20) // in the place of one that is not yet met
	}
	got := map[string]string{}
	n := w.store.Snap()
	defer n.Drop()
	for pair, is, err := n.Next(nil, true); is || err != api.OK; pair, is, err = n.Next(pair.Key, false) {
		if err == api.ErrDark {
			w.cut()
			pair = api.Pair{Key: pair.Key}
			clear(got)
			continue
		}
		if err != api.OK {
			w.Fatal(err)
		}
		got[string(pair.Key)] = string(pair.Value)
	}
	if !slices.ContainsFunc(w.may, func(m map[string]string) bool { return maps.Equal(m, got) }) {
		w.Errorf("%d keys, which is none of %d states", len(got), len(w.may))
	}
	w.now = got
	if len(w.disk.Pending()) > 0 {
		w.met.loose++
	} else {
		w.may = []map[string]string{got}
	}
}
