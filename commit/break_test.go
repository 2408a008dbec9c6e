package commit_test

import (
	"maps"
	"slices"
	"testing"

	"codicil/api"
	"codicil/commit"
	"codicil/disk"
)

// broke is a disk on which the last sync of a scene's Apply failed, and the store that was opened there: its newest state stands in the cache alone, and as long as it does, the one ahead of it may come back.
func (c scene) broke(t testing.TB) (*disk.Disk, *commit.Store) {
	t.Helper()
	d, s := c.open(t)
	d.Fail(syncKind, 1)
	applies(t, s, api.ErrIO, c.l...)
	again := opened(t, d)
	if !slices.Equal(d.Pending(), []int{int(c.last+1) % 2 * 8}) {
		t.Fatalf("%v pends", d.Pending())
	}
	c.isNew(t, again)
	return d, again
}

// breaks are scenes to break: one with room beside both states, and one whose next Apply has none but the elder state's pages.
func breaks(t testing.TB) []scene {
	t.Helper()
	roomy := scenes(t)[6]
	g := newGround(t, 60)
	g.must(append(puts(0, 20, mixed(60, 1)), put("great", mixed(8192, 2)))...)
	g.must(put("b", mixed(8192, 3)))
	used := len(g.file.all()) + 2
	tight := sceneOf("tight", g, del("great"), put("b", mixed(8100, 4)))
	cost, _ := tight.costs(t)
	small := onDisk(t, g, max(int(g.file.meta.Pages), used+cost.Writes-1))
	return []scene{roomy, sceneOf("tight", small, tight.l...)}
}

// next is an Apply behind the break.
var next = []api.Change{put("great", mixed(3000, 7)), put("b", mixed(4000, 8)), del(numbered(40)), put(numbered(5), "5")}

// TestSpaceBehindABreak: what is spared may be taken all the same.
func TestSpaceBehindABreak(t *testing.T) {
	for _, c := range breaks(t) {
		d, s := c.broke(t)
		_, want := c.costs(t)
		if got := s.Space(); got != want || got.Held != 0 || got.Free != got.Pages-2-got.Tree-got.Listed {
			t.Errorf("%s: %+v, not %+v", c.name, got, want)
		}
		d.Sync()
		if got := opened(t, d).Space(); got != want {
			t.Errorf("%s: %+v, not %+v", c.name, got, want)
		}
	}
}

// TestOperationsBehindABreak: where there is room, they are those that they ever are, and the same ones break the store.
func TestOperationsBehindABreak(t *testing.T) {
	c := breaks(t)[0]
	d, s := c.broke(t)
	before := d.Counts()
	applies(t, s, api.OK, next...)
	after := d.Counts()
	if after.Syncs-before.Syncs != 2 {
		t.Errorf("%+v, and %+v ahead of it", after, before)
	}
	writes := after.Writes - before.Writes
	for kind, most := range map[int]int{writeKind: writes, syncKind: 2} {
		for n := range most {
			d, s := c.broke(t)
			d.Fail(kind, n)
			applies(t, s, api.ErrIO, next...)
			if got := s.Space().Broken; got != (n == most-1) {
				t.Errorf("fault %d of %d, kind %d: broken is %v", n, most, kind, got)
			}
		}
	}
}

// TestSparedNoMore: once an Apply went well the elder state is nobody's, and its pages are taken as others are.
func TestSparedNoMore(t *testing.T) {
	c := breaks(t)[0]
	d, s := c.broke(t)
	f, _ := plainFile(c.image)
	applies(t, s, api.OK, next...)
	for n := range 30 {
		before := d.Counts()
		applies(t, s, api.OK, put("b", mixed(8192, uint32(n))), put("great", mixed(8192, uint32(n))), put("more", mixed(8192, uint32(n))))
		if got := d.Counts(); got.Syncs != before.Syncs+2 {
			t.Fatalf("%+v, and %+v ahead of it", got, before)
		}
	}
	if pagesAreSame(d.Image(), c.image, f.all()) {
		t.Error("no page of the elder state is taken")
	}
}

// TestBreakBehindABreak: again and again, each time it is told, and nothing is lost.
func TestBreakBehindABreak(t *testing.T) {
	for _, isKept := range []bool{false, true} {
		breakBehindABreak(t, isKept)
	}
}

func breakBehindABreak(t *testing.T, isKept bool) {
	t.Helper()
	c := breaks(t)[0]
	d, s := c.broke(t)
	elder, have := c.old, c.new
	for n := range 20 {
		l := []api.Change{put("b", mixed(65+n, uint32(n))), del(numbered(n))}
		d.Fail(syncKind, 1)
		applies(t, s, api.ErrIO, l...)
		if !s.Space().Broken {
			t.Errorf("the store is not broken, behind %d breaks", n)
		}
		elder, have = have, changed(have, l)
		s = opened(t, d)
		tells(t, s.Snap(), c.last+2+uint64(n), have)
	}
	d.Cut(isKept)
	if isKept {
		sound(t, d, have)
	} else {
		sound(t, d, elder)
	}
}

// TestCrashesBehindABreak: at each operation, with all kinds of cuts, and with something else between.
func TestCrashesBehindABreak(t *testing.T) {
	between := []func(d *disk.Disk, s *commit.Store){
		func(*disk.Disk, *commit.Store) {},
		func(d *disk.Disk, _ *commit.Store) { d.Cut() },
		func(d *disk.Disk, s *commit.Store) {
			d.Fail(syncKind, 0)
			applies(t, s, api.ErrIO)
		},
		func(d *disk.Disk, s *commit.Store) {
			d.Fail(writeKind, 0)
			applies(t, s, api.ErrIO, next...)
			d.Cut()
		},
	}
	for _, c := range breaks(t) {
		for _, happens := range between {
			for n := range 18 {
				for _, keep := range keeps(100, int64(n)) {
					c.crashBehindABreak(t, happens, n, keep)
				}
			}
		}
	}
}

func (c scene) crashBehindABreak(t *testing.T, happens func(*disk.Disk, *commit.Store), n int, keep []bool) {
	t.Helper()
	d, s := c.broke(t)
	happens(d, s)
	d.Trip(n)
	err := s.Apply(next)
	d.Cut(keep...)
	newest := changed(c.new, next)
	if err == api.OK {
		sound(t, d, newest)
	} else {
		sound(t, d, c.old, c.new, newest)
	}
	if t.Failed() {
		t.Fatalf("%s, trip %d, kept %v", c.name, n, keep)
	}
}

// TestFaultsBehindABreak: behind a fault that does not break the store it goes on.
func TestFaultsBehindABreak(t *testing.T) {
	for _, c := range breaks(t) {
		for kind := readKind; kind <= syncKind; kind++ {
			for n := range 18 {
				d, s := c.broke(t)
				d.Fail(kind, n)
				err := s.Apply(next)
				may := []map[string]string{changed(c.new, next)}
				if isBroken := s.Space().Broken; isBroken {
					may = append(may, c.old, c.new)
				} else if err != api.OK {
					applies(t, s, api.OK, next...)
				}
				d.Cut()
				sound(t, d, may...)
			}
		}
	}
}

// TestATightStoreBehindABreak: without other room the newest state must last ahead of all that is written, and then it is spared no more.
func TestATightStoreBehindABreak(t *testing.T) {
	c := breaks(t)[1]
	d, s := c.broke(t)
	before, elder := d.Counts(), loaded(t, c.image)
	f, _ := plainFile(elder.Image())
	d.Trip(2) // the state, and a sync
	applies(t, s, api.ErrDark, next...)
	if len(d.Pending()) != 0 {
		t.Errorf("%v pends", d.Pending())
	}
	sector := int(c.last+1) % 2 * api.PageSize
	if now, then := d.Image()[sector:][:api.Sector], c.image[sector:][:api.Sector]; slices.Equal(now, then) {
		t.Error("the newest state does not last")
	}
	d.Cut()
	d.Fail(syncKind, 1)
	applies(t, s, api.ErrIO, next...)
	if got := d.Counts(); !s.Space().Broken || got.Syncs-before.Syncs != 3 {
		t.Errorf("%+v, and %+v ahead of it", got, before)
	}
	written := loaded(t, d.Image())
	if isWhole := pagesAreSame(written.Image(), c.image, f.all()); isWhole {
		t.Error("there was other room")
	}
	d.Cut()
	sound(t, d, c.new, changed(c.new, next))
}

func pagesAreSame(a, b []byte, pages []uint32) bool {
	return !slices.ContainsFunc(pages, func(number uint32) bool {
		from := int(number) * api.PageSize
		return !slices.Equal(a[from:from+api.PageSize], b[from:from+api.PageSize])
	})
}

// TestReadsOfOpenBehindABreak: each may fail.
func TestReadsOfOpenBehindABreak(t *testing.T) {
	for _, c := range breaks(t) {
		d, _ := c.broke(t)
		before := d.Counts().Reads
		opened(t, d)
		reads := d.Counts().Reads - before
		for n := range reads {
			d.Fail(readKind, n)
			if s, err := commit.Open(d); s != nil || err != api.ErrIO {
				t.Errorf("%s, fault at read %d of %d: %v", c.name, n, reads, err)
			}
		}
		c.isNew(t, opened(t, d))
		d.Trip(reads - 1)
		if s, err := commit.Open(d); s != nil || err != api.ErrDark {
			t.Errorf("%s: %v", c.name, err)
		}
		d.Cut()
		sound(t, d, c.old)
	}
}

// TestAnElderStateThatIsNotRight: there is nothing to spare.
func TestAnElderStateThatIsNotRight(t *testing.T) {
	for _, c := range breaks(t) {
		f, _ := plainFile(c.image)
		d, s := c.open(t)
		d.Fail(syncKind, 1)
		applies(t, s, api.ErrIO, c.l...)
		d.Write(int(f.list[0]), make([]byte, api.PageSize))
		s = opened(t, d)
		c.isNew(t, s)
		applies(t, s, api.OK, next...)
		d.Cut()
		sound(t, d, changed(c.new, next))
	}
}

// TestCreatedInTheCache: Create's sync fails on a disk that had a store, and what is there then is taken as it stands.
func TestCreatedInTheCache(t *testing.T) {
	for _, c := range breaks(t) {
		for _, keep := range [][]bool{nil, {true, true}} {
			d, _ := c.open(t)
			d.Fail(syncKind, 0)
			if s, err := commit.Create(d); s != nil || err != api.ErrIO {
				t.Errorf("%v", err)
			}
			s := opened(t, d)
			tells(t, s.Snap(), 1, nil)
			if got := s.Space(); got.Free != got.Pages-2 {
				t.Errorf("%+v", got)
			}
			d.Fail(syncKind, 0)
			applies(t, s, api.ErrIO, put("a", mixed(2000, 1)))
			d.Cut(keep...)
			again := opened(t, d)
			got, _ := contents(t, again)
			if want := []map[string]string{c.old, {}}[min(len(keep), 1)]; !maps.Equal(got, want) {
				t.Errorf("%d keys", len(got))
			}
		}
	}
}
