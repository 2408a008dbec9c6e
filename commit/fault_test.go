package commit_test

import (
	"slices"
	"testing"

	"codicil/api"
	"codicil/commit"
)

// TestOrderOfOperations: all pages, a sync, one sector of the other state, a sync.
func TestOrderOfOperations(t *testing.T) {
	for _, c := range append(scenes(t), manyPages(t)) {
		want, space := c.costs(t)
		old, _ := plainFile(c.image)
		d, s := c.open(t)
		if want.Syncs != 2 || want.Writes < 1 {
			t.Errorf("%s: %+v", c.name, want)
		}
		d.Fail(syncKind, 0)
		before := d.Counts()
		applies(t, s, api.ErrIO, c.l...)
		if got := d.Counts(); got.Reads-before.Reads != want.Reads || got.Writes-before.Writes != want.Writes-1 || got.Syncs-before.Syncs != 1 {
			t.Errorf("%s: %+v up to the first sync", c.name, got)
		}
		if pending := d.Pending(); len(pending) != (want.Writes-1)*8 || slices.ContainsFunc(pending, func(sector int) bool { return sector < 16 }) {
			t.Errorf("%s: %v ahead of the first sync", c.name, pending)
		}
		if fresh := countFresh(old, d.Pending()); fresh != want.Writes-1 {
			t.Errorf("%s: %d pages are written once, and were free, of %d", c.name, fresh, want.Writes-1)
		}
		d.Fail(syncKind, 1)
		applies(t, s, api.ErrIO, c.l...)
		if pending := d.Pending(); !slices.Equal(pending, []int{int(c.last+1) % 2 * 8}) {
			t.Errorf("%s: %v ahead of the second sync", c.name, pending)
		}
		if got := s.Space(); got.Current+1 != space.Current {
			t.Errorf("%s: %+v", c.name, got)
		}
	}
}

// countFresh is how many pages these sectors are of, without those of a state.
func countFresh(f file, sectors []int) int {
	pages := map[int]bool{}
	for _, sector := range sectors {
		if number := sector / 8; !slices.Contains(f.all(), uint32(number)) {
			pages[number] = true
		}
	}
	return len(pages)
}

// TestFaultsOfApply: of each kind, at each operation. Those at the state and behind it break the store, no others do.
func TestFaultsOfApply(t *testing.T) {
	for _, c := range append(scenes(t), manyPages(t)) {
		cost, space := c.costs(t)
		if c.name == "many pages" && cost.Reads < 3 {
			t.Errorf("%s: %+v", c.name, cost)
		}
		for kind, most := range map[int]int{readKind: cost.Reads, writeKind: cost.Writes, syncKind: cost.Syncs} {
			for n := range most {
				c.faulty(t, kind, n, n == most-1 && kind != readKind, space)
			}
			d, s := c.open(t)
			d.Fail(kind, most)
			applies(t, s, api.OK, c.l...)
			d.Cut() // with it the fault that was not met goes
			c.isNew(t, s)
		}
	}
}

// faulty is an Apply of which one operation fails.
func (c scene) faulty(t *testing.T, kind, n int, breaks bool, behind api.Space) {
	t.Helper()
	d, s := c.open(t)
	before := s.Space()
	reader := s.Snap()
	d.Fail(kind, n)
	applies(t, s, api.ErrIO, c.l...)
	tells(t, reader, c.last, c.old)
	reader.Drop()
	c.isOld(t, s)
	before.Broken = breaks
	if got := s.Space(); got != before {
		t.Errorf("%s, fault %d of kind %d: %+v, not %+v", c.name, n, kind, got, before)
	}
	if breaks {
		c.broken(t, s)
		newest := c.old
		if kind == syncKind { // the state was written, and is still in the cache
			newest = c.new
		}
		again := opened(t, d)
		applies(t, again, api.OK, put("on", "1"))
		d.Cut()
		sound(t, d, changed(newest, []api.Change{put("on", "1")}))
		return
	}
	applies(t, s, api.OK, c.l...)
	c.isNew(t, s)
	if got := s.Space(); got != behind {
		t.Errorf("%s, behind fault %d of kind %d: %+v, not %+v", c.name, n, kind, got, behind)
	}
	d.Cut()
	sound(t, d, c.new)
}

// broken looks at what a broken store answers.
func (c scene) broken(t *testing.T, s *commit.Store) {
	t.Helper()
	for range 2 {
		applies(t, s, api.ErrCommitBroken, c.l...)
		applies(t, s, api.ErrCommitBroken)
		applies(t, s, api.ErrKeyLong, put("", ""))
		c.isOld(t, s)
		if !s.Space().Broken {
			t.Error("a broken store is no more")
		}
	}
}

// TestFaultsAheadLoseNothing: many of them in a row, of a small file.
func TestFaultsAheadLoseNothing(t *testing.T) {
	g := newGround(t, 30)
	g.must(put("a", mixed(3000, 1)), put("b", "2"))
	for n := range 40 {
		g.disk.Fail(syncKind, 0)
		if err := g.store.Apply([]api.Change{put("a", mixed(3000, uint32(n)))}); err != api.ErrIO {
			t.Errorf("%v", err)
		}
		g.space()
		g.disk.Fail(writeKind, n%4)
		if err := g.store.Apply([]api.Change{put("a", mixed(3000, uint32(n))), del("b")}); err != api.ErrIO {
			t.Errorf("%v", err)
		}
		g.space()
		g.newest()
	}
	g.must(put("a", mixed(3000, 3)))
	g.all()
}

// TestReadsOfSnapshotsThatFail: each tells the disk's error, and goes well when it is asked again.
func TestReadsOfSnapshotsThatFail(t *testing.T) {
	c := manyPages(t)
	calls := map[string]func(n *commit.Snap) (string, bool, api.Errno){
		"Get": func(n *commit.Snap) (string, bool, api.Errno) {
			v, is, err := n.Get([]byte(numbered(0)))
			return string(v), is, err
		},
		"Next": func(n *commit.Snap) (string, bool, api.Errno) {
			p, is, err := n.Next(nil, true)
			return string(p.Key) + string(p.Value), is, err
		},
		"Prev": func(n *commit.Snap) (string, bool, api.Errno) {
			p, is, err := n.Prev([]byte(numbered(1)), false)
			return string(p.Key) + string(p.Value), is, err
		},
	}
	wants := map[string]string{"Get": c.old[numbered(0)], "Next": numbered(0) + c.old[numbered(0)], "Prev": numbered(0) + c.old[numbered(0)]}
	for name, call := range calls {
		d, s := c.open(t)
		before := d.Counts().Reads
		call(s.Snap())
		reads := d.Counts().Reads - before
		if reads < 2 {
			t.Fatalf("%s reads %d", name, reads)
		}
		for at := range reads {
			for _, want := range []api.Errno{api.ErrIO, api.ErrDark} {
				d, s := c.open(t)
				n := s.Snap()
				if want == api.ErrIO {
					d.Fail(readKind, at)
				} else {
					d.Trip(at)
				}
				if got, is, err := call(n); got != "" || is || err != want {
					t.Errorf("%s: %d bytes, %v, %v, not %v", name, len(got), is, err, want)
				}
				d.Cut()
				if got, is, err := call(n); got != wants[name] || !is || err != api.OK {
					t.Errorf("%s asked again: %d bytes, %v, %v", name, len(got), is, err)
				}
				if s.Space().Broken {
					t.Errorf("%s breaks the store", name)
				}
			}
		}
	}
}

// TestFaultsOfCreate: no store, and the disk's error.
func TestFaultsOfCreate(t *testing.T) {
	for kind, most := range map[int]int{writeKind: 2, syncKind: 1} {
		for n := range most {
			d := newDisk(t, 10)
			d.Fail(kind, n)
			if s, err := commit.Create(d); s != nil || err != api.ErrIO {
				t.Errorf("fault %d of kind %d: %v", n, kind, err)
			}
			created(t, d)
			applies(t, opened(t, d), api.OK, put("a", "1"))
		}
	}
	for n := range 3 {
		for _, keep := range keeps(2, 1) {
			d := newDisk(t, 10)
			d.Trip(n)
			for range 2 {
				if s, err := commit.Create(d); s != nil || err != api.ErrDark {
					t.Errorf("trip %d: %v", n, err)
				}
			}
			d.Cut(keep...)
			if s, err := commit.Open(d); err != api.OK && (s != nil || err != api.ErrCommitNone) {
				t.Errorf("trip %d, kept %v: %v", n, keep, err)
			}
			created(t, d)
		}
	}
}

// TestFaultsOfOpen: at each read.
func TestFaultsOfOpen(t *testing.T) {
	for _, c := range scenes(t) {
		d, _ := c.open(t)
		reads := d.Counts().Reads
		for n := range reads {
			d := loaded(t, c.image)
			d.Fail(readKind, n)
			if s, err := commit.Open(d); s != nil || err != api.ErrIO {
				t.Errorf("%s, fault at read %d of %d: %v", c.name, n, reads, err)
			}
			c.isOld(t, opened(t, d))
			d.Trip(n)
			for range 2 {
				if s, err := commit.Open(d); s != nil || err != api.ErrDark {
					t.Errorf("%s, trip at read %d of %d: %v", c.name, n, reads, err)
				}
			}
			d.Cut()
			c.isOld(t, opened(t, d))
		}
		d = loaded(t, c.image)
		d.Fail(readKind, reads)
		d.Fail(writeKind, 0)
		d.Fail(syncKind, 0)
		c.isOld(t, opened(t, d))
	}
}
