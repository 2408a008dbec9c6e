package commit_test

import (
	"bytes"
	"slices"
	"strings"
	"testing"

	"codicil/api"
	"codicil/commit"
	"codicil/disk"
	"codicil/page"
)

func value(t *testing.T, n *commit.Snap, key string) string {
	t.Helper()
	v, is, err := n.Get([]byte(key))
	if err != api.OK || !is {
		t.Errorf("Get(%q): %v, %v", key, is, err)
	}
	return string(v)
}

// TestExamples: the chapter's three.
func TestExamples(t *testing.T) {
	d := newDisk(t, 100)
	s := created(t, d)
	if got := s.Space(); got != (api.Space{Pages: 100, Free: 98, Current: 1}) {
		t.Errorf("%+v", got)
	}
	applies(t, s, api.OK, put("a", "1"))
	if got := s.Space(); got != (api.Space{Pages: 100, Tree: 1, Free: 97, Keys: 1, Current: 2}) {
		t.Errorf("%+v", got)
	}
	n := s.Snap()
	applies(t, s, api.OK, put("a", "2"))
	if old, now := value(t, n, "a"), value(t, s.Snap(), "a"); old != "1" || now != "2" {
		t.Errorf("%q, %q", old, now)
	}
	n.Drop()
	if got := s.Space(); got.Snaps != 1 {
		t.Errorf("%+v", got)
	}
	if v, is, err := n.Get([]byte("a")); v != nil || is || err != api.ErrEnded {
		t.Errorf("%q, %v, %v", v, is, err)
	}

	d.Cut()
	s = opened(t, d)
	if got := value(t, s.Snap(), "a"); got != "2" {
		t.Errorf("%q", got)
	}
	d.Fail(syncKind, 0)
	applies(t, s, api.ErrIO, put("a", "3"))
	if got := value(t, s.Snap(), "a"); got != "2" || s.Space().Broken {
		t.Errorf("%q, %+v", got, s.Space())
	}
	applies(t, s, api.OK, put("a", "3"))
	d.Fail(syncKind, 1)
	applies(t, s, api.ErrIO, put("a", "4"))
	if got := value(t, s.Snap(), "a"); got != "3" || !s.Space().Broken {
		t.Errorf("%q, %+v", got, s.Space())
	}
	applies(t, s, api.ErrCommitBroken, put("a", "5"))

	if s, err := commit.Create(newDisk(t, 3)); s != nil || err != api.ErrFull {
		t.Errorf("%v", err)
	}
	if s, err := commit.Open(newDisk(t, 100)); s != nil || err != api.ErrCommitNone {
		t.Errorf("%v", err)
	}
	applies(t, s, api.ErrKeyLong, put("", "1"))
}

func applies(t testing.TB, s *commit.Store, want api.Errno, l ...api.Change) {
	t.Helper()
	if err := s.Apply(l); err != want {
		t.Errorf("Apply: %v, not %v", err, want)
	}
}

// TestFewPages: which disks may be made a store.
func TestFewPages(t *testing.T) {
	if d, err := disk.New(0); d != nil || err != api.ErrDiskSize {
		t.Errorf("a disk of no pages: %v", err)
	}
	for pages := 1; pages <= 5; pages++ {
		d := newDisk(t, pages)
		if s, err := commit.Open(d); s != nil || err != api.ErrCommitNone {
			t.Errorf("Open of %d pages of noughts: %v", pages, err)
		}
		if reads := d.Counts().Reads; pages < 2 && reads != 0 || pages >= 2 && reads != 2 {
			t.Errorf("Open of %d pages of noughts reads %d", pages, reads)
		}
		before := d.Counts()
		s, err := commit.Create(d)
		if pages < 4 {
			if s != nil || err != api.ErrFull || d.Counts() != before {
				t.Errorf("Create of %d pages: %v, %+v", pages, err, d.Counts())
			}
			continue
		}
		if err != api.OK || s.Space() != (api.Space{Pages: pages, Free: pages - 2, Current: 1}) {
			t.Errorf("Create of %d pages: %v", pages, err)
		}
	}
}

// TestFewPagesFill: what goes on a disk of four and of five pages, by hand.
func TestFewPagesFill(t *testing.T) {
	g := newGround(t, 4)
	g.must(put("a", "1"))
	if err := g.apply(put("a", "2")); err != api.ErrFull { // one page of the tree, one of the list: only one is left
		t.Errorf("%v", err)
	}
	g.must() // nothing is free: there is no list
	g.must(del("z"))
	g.must(del("a"))
	if err := g.apply(put("a", "3")); err != api.ErrFull {
		t.Errorf("%v", err)
	}
	g.all()
	g = newGround(t, 5)
	g.must(put("a", "1"))
	g.must(put("a", "2"))
	if err := g.apply(put("a", "3")); err != api.ErrFull {
		t.Errorf("%v", err)
	}
	g.all()
	g = newGround(t, 6)
	for range 20 {
		g.must(put("a", "1"))
		g.all()
	}
}

// TestGreatestDisk: all pages are used, and the lists have many pages.
func TestGreatestDisk(t *testing.T) {
	g := newGround(t, api.MaxPages)
	g.space()
	var l []api.Change
	for n := range 1700 {
		l = append(l, put(numbered(n), mixed(8192, uint32(n))))
	}
	g.must(l...)
	g.must(dels(5, 1690)...)
	g.space()
	if len(g.file.list) < 60 {
		t.Errorf("a list of %d pages", len(g.file.list))
	}
	old := g.snap()
	g.must(puts(0, 1000, "v")...)
	g.must(put("great", mixed(8192, 1)))
	g.all()
	old.Drop()
	again := opened(t, g.disk)
	tells(t, again.Snap(), g.file.meta.Generation, g.now)
}

// TestCreatedFile: what stands in it, byte by byte.
func TestCreatedFile(t *testing.T) {
	image := bytes.Repeat([]byte{7}, 9*api.PageSize)
	d := loaded(t, image)
	before := d.Counts()
	created(t, d)
	if got := d.Counts(); got.Reads != before.Reads || got.Writes != before.Writes+2 || got.Syncs != before.Syncs+1 {
		t.Errorf("%+v", got)
	}
	sector, _ := page.PutMeta(api.Meta{Generation: 1, Pages: 2})
	copy(image, make([]byte, api.Sector))
	copy(image[api.PageSize:], sector)
	if !bytes.Equal(d.Image(), image) {
		t.Error("other bytes than the two states were written, or other states")
	}
	d.Fail(syncKind, 0)
	commit.Create(d)
	if pending := d.Pending(); !slices.Equal(pending, []int{8, 0}) {
		t.Errorf("%v is written, in this order", pending)
	}
}

// TestOpenReadsOnce: the two states, and each page of the tree and of the list.
func TestOpenReadsOnce(t *testing.T) {
	for _, c := range append(scenes(t), manyPages(t)) {
		f, _ := plainFile(c.image)
		d, _ := c.open(t)
		if got := d.Counts(); got != (api.Counts{Reads: 2 + len(f.all())}) {
			t.Errorf("%s, of %d pages: %+v", c.name, len(f.all()), got)
		}
	}
}

// TestCreateAnew: what was there is gone.
func TestCreateAnew(t *testing.T) {
	for applied := range 4 {
		g := newGround(t, 60)
		for n := range applied {
			g.must(puts(n, n+5, mixed(70, 1))...)
		}
		again := &ground{TB: t, disk: g.disk, store: created(t, g.disk), now: map[string]string{}}
		again.reread()
		again.all()
		again.must(put("b", "2"))
		again.all()
		tells(t, opened(t, g.disk).Snap(), 2, map[string]string{"b": "2"})
	}
}

// TestWhereStatesStand: the even ones in page 0, the odd ones in page 1, and the one ahead stays.
func TestWhereStatesStand(t *testing.T) {
	g := newGround(t, 60)
	for generation := uint64(2); generation < 9; generation++ {
		before := g.file.meta
		g.must(put("a", numbered(int(generation))))
		image := g.disk.Image()
		now, err := page.GetMeta(image[generation%2*api.PageSize:])
		if err != api.OK || now.Generation != generation || now != g.file.meta {
			t.Errorf("%+v, %v", now, err)
		}
		if ahead, err := page.GetMeta(image[(generation+1)%2*api.PageSize:]); err != api.OK || ahead != before {
			t.Errorf("%+v, %v", ahead, err)
		}
	}
}

// TestWhatIsRefused: which error comes where several are.
func TestWhatIsRefused(t *testing.T) {
	long, longer := strings.Repeat("k", 160), strings.Repeat("k", 161)
	longValue := api.Change{Key: []byte("v"), Value: make([]byte, 8193)}
	both := api.Change{Key: []byte(longer), Value: make([]byte, 8193)}
	unasked := api.Change{Key: []byte("v"), Value: make([]byte, 8193), Delete: true}
	rows := []struct {
		name string
		l    []api.Change
		want api.Errno
	}{
		{"an empty key", []api.Change{put("a", "1"), put("", "1")}, api.ErrKeyLong},
		{"an empty key that is taken away", []api.Change{del("")}, api.ErrKeyLong},
		{"a key of 161 bytes", []api.Change{put(longer, "1")}, api.ErrKeyLong},
		{"one of 161 bytes that is taken away", []api.Change{put("a", "1"), del(longer)}, api.ErrKeyLong},
		{"a value of 8193 bytes", []api.Change{put("a", "1"), longValue}, api.ErrDocLong},
		{"a value ahead of a key", []api.Change{longValue, put("", "1")}, api.ErrKeyLong},
		{"both in one", []api.Change{both}, api.ErrKeyLong},
		{"what is put and then taken away", []api.Change{longValue, del("v")}, api.ErrDocLong},
		{"none", []api.Change{put(long, mixed(8192, 1)), put("k", ""), unasked}, api.OK},
	}
	for _, r := range rows {
		g := newGround(t, 300)
		g.must(put("a", "0"))
		before := g.disk.Counts()
		if err := g.apply(r.l...); err != r.want {
			t.Errorf("%s: %v", r.name, err)
		}
		if r.want != api.OK && g.disk.Counts() != before {
			t.Errorf("%s: an operation is done", r.name)
		}
		g.all()
		g.disk.Fail(syncKind, 1)
		g.store.Apply(nil)
		want := r.want
		if want == api.OK {
			want = api.ErrCommitBroken
		}
		before = g.disk.Counts()
		applies(t, g.store, want, r.l...)
		if g.disk.Counts() != before {
			t.Errorf("%s: a broken store does an operation", r.name)
		}
	}
}

// TestTheLastGeneration: 2^62 is the last one, and what is wrong with the changes comes first.
func TestTheLastGeneration(t *testing.T) {
	d := newDisk(t, 60)
	s := created(t, d)
	applies(t, s, api.OK, put("a", "1"))
	f, _ := plainFile(d.Image())
	f.meta.Generation = api.MaxCount - 1
	sector, _ := page.PutMeta(f.meta)
	d.Write(1, sector)
	d.Sync()
	s = opened(t, d)
	applies(t, s, api.OK, put("b", "2"))
	want := map[string]string{"a": "1", "b": "2"}
	for range 2 {
		before := d.Counts()
		applies(t, s, api.ErrRange)
		applies(t, s, api.ErrRange, put("a", "1"))
		applies(t, s, api.ErrKeyLong, put("", "1"))
		applies(t, s, api.ErrDocLong, put("a", mixed(8193, 1)))
		if d.Counts() != before {
			t.Error("an operation is done")
		}
		if got := s.Space(); got.Current != api.MaxCount || got.Broken || got.Keys != 2 {
			t.Errorf("%+v", got)
		}
		tells(t, s.Snap(), api.MaxCount, want)
		s = opened(t, d)
	}
}

// TestABrokenStoreAtTheLastGeneration: broken comes first.
func TestABrokenStoreAtTheLastGeneration(t *testing.T) {
	for _, kind := range []int{writeKind, syncKind} {
		d := newDisk(t, 60)
		sector, _ := page.PutMeta(api.Meta{Generation: api.MaxCount - 1, Pages: 2})
		d.Write(1, sector)
		d.Sync()
		s := opened(t, d)
		writes := map[int]int{writeKind: 0, syncKind: 1}
		d.Fail(kind, writes[kind])
		applies(t, s, api.ErrIO)
		applies(t, s, api.ErrCommitBroken)
		if got := s.Space(); got.Current != api.MaxCount-1 || !got.Broken {
			t.Errorf("%+v", got)
		}
	}
}
