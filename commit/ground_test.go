package commit_test

import (
	"bytes"
	"fmt"
	"maps"
	"slices"
	"testing"

	"codicil/api"
	"codicil/commit"
	"codicil/disk"
	"codicil/over"
)

// The kinds of operations, as a disk's Fail names them.
const (
	readKind  = 1
	writeKind = 2
	syncKind  = 3
)

func put(key, value string) api.Change {
	return api.Change{Key: []byte(key), Value: []byte(value)}
}

func del(key string) api.Change { return api.Change{Key: []byte(key), Delete: true} }

func numbered(n int) string { return fmt.Sprintf("key %04d", n) }

// puts are puts of numbered keys, from one on, up to another one.
func puts(from, to int, value string) []api.Change {
	var out []api.Change
	for n := from; n < to; n++ {
		out = append(out, put(numbered(n), value))
	}
	return out
}

func dels(from, to int) []api.Change {
	var out []api.Change
	for n := from; n < to; n++ {
		out = append(out, del(numbered(n)))
	}
	return out
}

// mixed are n bytes that look like nothing, the same ones for the same seed.
func mixed(n int, seed uint32) string {
	out := make([]byte, n)
	state := seed*2654435761 + 12345
	for at := range out {
		state = state*1664525 + 1013904223
		out[at] = byte(state >> 24)
	}
	return string(out)
}

// changed is what changes make of pairs, one behind the other.
func changed(pairs map[string]string, l []api.Change) map[string]string {
	out := maps.Clone(pairs)
	if out == nil {
		out = map[string]string{}
	}
	for _, c := range l {
		if c.Delete {
			delete(out, string(c.Key))
		} else {
			out[string(c.Key)] = string(c.Value)
		}
	}
	return out
}

func newDisk(t testing.TB, pages int) *disk.Disk {
	t.Helper()
	d, err := disk.New(pages)
	if err != api.OK {
		t.Fatal(err)
	}
	return d
}

func loaded(t testing.TB, image []byte) *disk.Disk {
	t.Helper()
	d, err := disk.Load(image)
	if err != api.OK {
		t.Fatal(err)
	}
	return d
}

func created(t testing.TB, d *disk.Disk) *commit.Store {
	t.Helper()
	s, err := commit.Create(d)
	if err != api.OK || s == nil {
		t.Fatalf("Create: %v", err)
	}
	return s
}

func opened(t testing.TB, d *disk.Disk) *commit.Store {
	t.Helper()
	before := d.Counts()
	s, err := commit.Open(d)
	if err != api.OK || s == nil {
		t.Fatalf("Open: %v", err)
	}
	if after := d.Counts(); after.Writes != before.Writes || after.Syncs != before.Syncs {
		t.Error("Open writes, or syncs")
	}
	return s
}

// view is what a snapshot is to tell, and on which pages its state stands, with its list.
type view struct {
	*commit.Snap
	generation uint64
	pairs      map[string]string
	pages      []uint32
}

// ground is a store, and what it is to have.
type ground struct {
	testing.TB
	disk  *disk.Disk
	store *commit.Store
	file  file // the newest state, as the disk's bytes say
	now   map[string]string
	live  []view
	gone  []view
}

func newGround(t testing.TB, pages int) *ground {
	t.Helper()
	d := newDisk(t, pages)
	g := &ground{TB: t, disk: d, store: created(t, d), now: map[string]string{}}
	g.reread()
	return g
}

// reread looks at the bytes that last: all that Apply told as OK is there.
func (g *ground) reread() {
	g.Helper()
	f, err := plainFile(g.disk.Image())
	if err != api.OK {
		g.Fatalf("the file is wrong: %v", err)
	}
	if !maps.Equal(f.pairs, g.now) {
		g.Fatalf("the file has %d pairs, or others than the %d that were put", len(f.pairs), len(g.now))
	}
	g.file = f
}

// must applies changes that must go well.
func (g *ground) must(l ...api.Change) {
	g.Helper()
	if err := g.apply(l...); err != api.OK {
		g.Fatalf("Apply of %d changes: %v; %+v", len(l), err, g.store.Space())
	}
}

// apply looks at all that an Apply without faults promises.
func (g *ground) apply(l ...api.Change) api.Errno {
	g.Helper()
	before, space := g.disk.Image(), g.store.Space()
	needed := g.needed()
	err := g.store.Apply(l)
	if err == api.ErrFull && space.Free >= promised(space.Pages, l) {
		g.Errorf("ErrFull of %d changes with %d pages", len(l), space.Free)
	}
	after := g.disk.Image()
	for _, number := range needed {
		if from := int(number) * api.PageSize; !bytes.Equal(before[from:from+api.PageSize], after[from:from+api.PageSize]) {
			g.Errorf("page %d was written, which somebody needs", number)
		}
	}
	if err != api.OK {
		if now := g.store.Space(); now != space {
			g.Errorf("behind %v: %+v, ahead of it %+v", err, now, space)
		}
		return err
	}
	g.now = changed(g.now, l)
	was := g.file.meta
	g.reread()
	if g.file.meta.Generation != was.Generation+1 || len(g.disk.Pending()) > 0 {
		g.Errorf("behind generation %d comes %d", was.Generation, g.file.meta.Generation)
	}
	return err
}

// needed are the pages of the newest state and of all snapshots.
func (g *ground) needed() []uint32 {
	out := g.file.all()
	for _, v := range g.live {
		out = append(out, v.pages...)
	}
	slices.Sort(out)
	return slices.Compact(out)
}

// promised is with how many pages that may be taken ErrFull is not told.
func promised(pages int, l []api.Change) int {
	out := 40 + pages/100
	for _, c := range l {
		out += 64 + over.Need(len(c.Value))
	}
	return out
}

func (g *ground) snap() view {
	g.Helper()
	v := view{g.store.Snap(), g.file.meta.Generation, g.now, g.file.all()}
	g.live = append(g.live, v)
	return v
}

func (g *ground) drop(at int) {
	g.Helper()
	v := g.live[at]
	v.Drop()
	g.live = slices.Delete(g.live, at, at+1)
	g.gone = append(g.gone, v)
}

// space looks at each number of Space, by the pages of the file and of the snapshots.
func (g *ground) space() {
	g.Helper()
	want := api.Space{Pages: g.disk.Pages(), Tree: len(g.file.tree), Listed: len(g.file.list), Keys: len(g.now), Snaps: len(g.live), Current: g.file.meta.Generation}
	want.Held = len(g.needed()) - want.Tree - want.Listed
	want.Free = want.Pages - 2 - len(g.needed())
	before, pending := g.disk.Counts(), g.disk.Pending()
	got := g.store.Space()
	if got != want {
		g.Errorf("Space:\n%+v, not\n%+v", got, want)
	}
	if got.Tree+got.Listed+got.Free+got.Held+2 != got.Pages {
		g.Errorf("%+v does not come to all pages", got)
	}
	if g.disk.Counts() != before || !slices.Equal(g.disk.Pending(), pending) {
		g.Error("Space does operations")
	}
}

// views looks whether all snapshots tell what they are to tell, and those that were dropped nothing.
func (g *ground) views() {
	g.Helper()
	for _, v := range g.live {
		tells(g, v.Snap, v.generation, v.pairs)
	}
	for _, v := range g.gone {
		ended(g, v)
	}
}

// newest looks at the newest state by a snapshot of its own.
func (g *ground) newest() {
	g.Helper()
	n := g.store.Snap()
	tells(g, n, g.file.meta.Generation, g.now)
	n.Drop()
}

// tells looks whether a snapshot has just these pairs: key by key, up and down.
func tells(t testing.TB, n *commit.Snap, generation uint64, pairs map[string]string) {
	t.Helper()
	if n.Generation() != generation || n.Keys() != len(pairs) {
		t.Errorf("generation %d with %d keys, not %d with %d", n.Generation(), n.Keys(), generation, len(pairs))
	}
	keys := slices.Sorted(maps.Keys(pairs))
	var from []byte
	for _, key := range keys {
		value, is, err := n.Get([]byte(key))
		if string(value) != pairs[key] || !is || err != api.OK {
			t.Errorf("Get(%q): %d bytes, %v, %v", key, len(value), is, err)
		}
		pair, is, err := n.Next(from, false)
		if string(pair.Key) != key || string(pair.Value) != pairs[key] || !is || err != api.OK {
			t.Errorf("Next(%q): %q, %v, %v, not %q", from, pair.Key, is, err, key)
		}
		from = pair.Key
	}
	none(t, "Next", n.Next, from, false)
	from = nil
	for i, key := range slices.Backward(keys) {
		pair, is, err := n.Prev(from, i == len(keys)-1)
		if string(pair.Key) != key || string(pair.Value) != pairs[key] || !is || err != api.OK {
			t.Errorf("Prev(%q): %q, %v, %v, not %q", from, pair.Key, is, err, key)
		}
		from = pair.Key
	}
	none(t, "Prev", n.Prev, from, false)
}

func none(t testing.TB, name string, ask func([]byte, bool) (api.Pair, bool, api.Errno), from []byte, in bool) {
	t.Helper()
	if pair, is, err := ask(from, in); pair.Key != nil || pair.Value != nil || is || err != api.OK {
		t.Errorf("%s(%q): %q, %v, %v, not none", name, from, pair.Key, is, err)
	}
}

// ended looks at a snapshot that was dropped.
func ended(t testing.TB, v view) {
	t.Helper()
	if value, is, err := v.Get([]byte("a")); value != nil || is || err != api.ErrEnded {
		t.Errorf("Get behind Drop: %q, %v, %v", value, is, err)
	}
	for _, ask := range []func([]byte, bool) (api.Pair, bool, api.Errno){v.Next, v.Prev} {
		if pair, is, err := ask(nil, true); pair.Key != nil || pair.Value != nil || is || err != api.ErrEnded {
			t.Errorf("behind Drop: %q, %v, %v", pair.Key, is, err)
		}
	}
	if v.Generation() != v.generation || v.Keys() != len(v.pairs) {
		t.Errorf("behind Drop: generation %d with %d keys", v.Generation(), v.Keys())
	}
}

// all is all that is looked at behind a call.
func (g *ground) all() {
	g.Helper()
	g.space()
	g.views()
	g.newest()
}
