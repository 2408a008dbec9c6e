package commit_test

import (
	"maps"
	"math/rand"
	"slices"
	"strings"
	"testing"

	"codicil/api"
)

// sizes are those of values at which something begins.
var sizes = []int{0, 1, 30, 64, 65, 1004, 1005, 8192}

// someKey is one of few keys, of all lengths that may be.
func someKey(r *rand.Rand, most int) string {
	switch n := r.Intn(most); n {
	case 0:
		return "k"
	case 1:
		return strings.Repeat("k", 160)
	case 2:
		return "\x00"
	case 3:
		return "\xff" + mixed(159, 7)
	default:
		return numbered(n)
	}
}

// someChanges are puts and deletes, of keys that are there and that are not, also of the same one several times.
func someChanges(r *rand.Rand, most int) []api.Change {
	var out []api.Change
	for range r.Intn(6) {
		key := someKey(r, most)
		if r.Intn(3) == 0 {
			out = append(out, del(key))
		} else {
			out = append(out, put(key, mixed(sizes[r.Intn(len(sizes))], r.Uint32())))
		}
		if r.Intn(6) == 0 {
			out = append(out, put(key, "again"), del(key), put(key, mixed(r.Intn(80), r.Uint32())))
		}
	}
	return out
}

func wrongChanges(r *rand.Rand) ([]api.Change, api.Errno) {
	l := someChanges(r, 20)
	at := r.Intn(len(l) + 1)
	if r.Intn(2) == 0 {
		return slices.Insert(l, at, put("v", mixed(8193, 1))), api.ErrDocLong
	}
	return slices.Insert(l, at, []api.Change{put("", "1"), del(strings.Repeat("k", 161))}[r.Intn(2)]), api.ErrKeyLong
}

// TestAgainstAMap: long rows of calls, on disks with much room and with little.
func TestAgainstAMap(t *testing.T) {
	for seed, pages := range []int{40, 90, 150, 300, 300, 700} {
		r := rand.New(rand.NewSource(int64(seed)))
		g := newGround(t, pages)
		full := 0
		for range 600 {
			if g.step(r) == api.ErrFull {
				full++
			}
			g.space()
			if t.Failed() {
				t.Fatalf("seed %d, of %d pages", seed, pages)
			}
		}
		if full == 0 && pages < 50 || full > 0 && pages > 500 {
			t.Errorf("%d times ErrFull on %d pages", full, pages)
		}
		g.all()
		for len(g.live) > 0 {
			g.drop(r.Intn(len(g.live)))
			g.space()
		}
		g.gone = g.gone[:min(len(g.gone), 20)]
		g.all()
		if got := g.store.Space(); got.Held != 0 || got.Free != got.Pages-2-got.Tree-got.Listed {
			t.Errorf("no snapshot is there, and pages are held: %+v", got)
		}
	}
}

// step is one call, told by chance.
func (g *ground) step(r *rand.Rand) api.Errno {
	g.Helper()
	switch n := r.Intn(20); {
	case n < 9:
		return g.apply(someChanges(r, 60)...)
	case n < 10:
		return g.apply(dels(0, 60)...)
	case n < 11:
		g.failsFirst(someChanges(r, 60))
	case n < 12:
		l, want := wrongChanges(r)
		if err := g.apply(l...); err != want {
			g.Errorf("%v, not %v", err, want)
		}
	case n < 14 && len(g.live) < 5:
		g.snap()
	case n < 16 && len(g.live) > 0:
		g.drop(r.Intn(len(g.live)))
	case n < 17 && len(g.gone) > 0:
		v := g.gone[r.Intn(len(g.gone))]
		v.Drop()
		ended(g, v)
	case n < 18 && r.Intn(4) == 0:
		g.reopen()
	case len(g.live) > 0:
		g.asks(r, g.live[r.Intn(len(g.live))])
	default:
		g.newest()
	}
	return api.OK
}

// failsFirst applies changes whose first sync fails, which shows all that was written ahead of it.
func (g *ground) failsFirst(l []api.Change) {
	g.Helper()
	space, needed := g.store.Space(), g.needed()
	g.disk.Fail(syncKind, 0)
	err := g.store.Apply(l)
	if err != api.ErrIO && err != api.ErrFull || g.store.Space() != space {
		g.Errorf("%v, %+v", err, g.store.Space())
	}
	for _, sector := range g.disk.Pending() {
		number := uint32(sector * api.Sector / api.PageSize)
		if number < 2 || slices.Contains(needed, number) {
			g.Errorf("page %d is written, which somebody needs", number)
		}
	}
	g.disk.Cut()
	g.newest()
	g.views()
}

// reopen takes another store of the disk: none of the snapshots is its.
func (g *ground) reopen() {
	g.Helper()
	for len(g.live) > 0 {
		g.drop(0)
	}
	g.store = opened(g, g.disk)
}

// asks a snapshot for keys that are there and that are not.
func (g *ground) asks(r *rand.Rand, v view) {
	g.Helper()
	keys := slices.Sorted(maps.Keys(v.pairs))
	for range 5 {
		key := someKey(r, 70)
		if r.Intn(4) == 0 {
			key = key[:r.Intn(len(key)+1)]
		}
		got, is, err := v.Get([]byte(key))
		if want, there := v.pairs[key]; string(got) != want || is != there || err != api.OK {
			g.Errorf("Get(%q): %d bytes, %v, %v", key, len(got), is, err)
		}
		in := r.Intn(2) == 0
		at, exact := slices.BinarySearch(keys, key)
		up, down := at, at-1
		if exact && !in {
			up++
		}
		if exact && in {
			down++
		}
		if key == "" && in {
			down = len(keys) - 1
		}
		g.asked("Next", v, v.Next, key, in, keys, up)
		g.asked("Prev", v, v.Prev, key, in, keys, down)
	}
}

func (g *ground) asked(name string, v view, ask func([]byte, bool) (api.Pair, bool, api.Errno), from string, in bool, keys []string, at int) {
	g.Helper()
	if at < 0 || at >= len(keys) {
		none(g, name, ask, []byte(from), in)
		return
	}
	pair, is, err := ask([]byte(from), in)
	if string(pair.Key) != keys[at] || string(pair.Value) != v.pairs[keys[at]] || !is || err != api.OK {
		g.Errorf("%s(%q, %v): %q, %v, %v, not %q", name, from, in, pair.Key, is, err, keys[at])
	}
}

// TestOneBatch: what some batches make of a file, each told by hand.
func TestOneBatch(t *testing.T) {
	before := map[string]string{"a": "1", "b": mixed(3000, 1), "c": ""}
	rows := []struct {
		l    []api.Change
		want map[string]string
	}{
		{nil, before},
		{[]api.Change{}, before},
		{[]api.Change{del("z"), del("zz")}, before},
		{[]api.Change{put("a", "1")}, before},
		{[]api.Change{put("a", "2"), put("a", "3"), put("a", "1")}, before},
		{[]api.Change{del("a"), put("a", "1")}, before},
		{[]api.Change{put("d", "4"), del("d")}, before},
		{[]api.Change{put("b", "small"), del("a")}, map[string]string{"b": "small", "c": ""}},
		{[]api.Change{del("a"), del("b"), del("c"), del("a")}, map[string]string{}},
		{[]api.Change{put("a", mixed(8192, 2)), put("b", mixed(65, 3)), put("c", mixed(1004, 4)), put("d", mixed(1005, 5))}, map[string]string{"a": mixed(8192, 2), "b": mixed(65, 3), "c": mixed(1004, 4), "d": mixed(1005, 5)}},
		{[]api.Change{{Key: []byte("a"), Value: []byte("none"), Delete: true}}, map[string]string{"b": mixed(3000, 1), "c": ""}},
	}
	for i, r := range rows {
		g := newGround(t, 200)
		g.must(put("a", "1"), put("b", mixed(3000, 1)), put("c", ""))
		v := g.snap()
		g.must(r.l...)
		if !maps.Equal(g.now, r.want) {
			t.Errorf("row %d is wrong itself", i)
		}
		tells(t, g.store.Snap(), 3, r.want)
		tells(t, v.Snap, 2, before)
		tells(t, opened(t, g.disk).Snap(), 3, r.want)
	}
}

// TestSnapshotsOfUnlikeAges: dropped in any order, each stays till then.
func TestSnapshotsOfUnlikeAges(t *testing.T) {
	for seed := range int64(12) {
		r := rand.New(rand.NewSource(seed))
		g := newGround(t, 500)
		for n := range 8 {
			g.must(append(puts(n*4, n*4+6, mixed(20+n, uint32(n))), put("great", mixed(1000*n+70, uint32(n))))...)
			g.snap()
			if n%3 == 0 {
				g.snap()
			}
		}
		g.all()
		for len(g.live) > 0 {
			g.drop(r.Intn(len(g.live)))
			g.all()
			g.must(put("great", mixed(2000, r.Uint32())), del(numbered(r.Intn(40))))
			g.all()
		}
		if got := g.store.Space(); got.Held != 0 || got.Snaps != 0 {
			t.Errorf("%+v", got)
		}
	}
}

// TestDropTwice: the second one takes no other snapshot's pages away.
func TestDropTwice(t *testing.T) {
	g := newGround(t, 100)
	g.must(put("a", mixed(500, 1)))
	g.snap()
	g.snap()
	one, other := g.live[0], g.live[1]
	g.must(put("a", "2"))
	g.all()
	g.drop(0)
	for range 3 {
		one.Drop()
		g.all()
		g.must(put("a", mixed(700, 3)))
		tells(t, other.Snap, 2, map[string]string{"a": mixed(500, 1)})
	}
	g.drop(0)
	other.Drop()
	g.all()
	if got := g.store.Space(); got.Snaps != 0 || got.Held != 0 {
		t.Errorf("%+v", got)
	}
}

// TestSnapshotsOfNothing: of a store without keys. One that never had any holds nothing, a later one its list alone.
func TestSnapshotsOfNothing(t *testing.T) {
	g := newGround(t, 30)
	first := g.snap()
	g.must(put("a", "1"))
	for range 10 {
		g.must(put("a", "2"))
		g.all()
	}
	if got := g.store.Space(); got.Held != 0 {
		t.Errorf("a snapshot without pages holds some: %+v", got)
	}
	g.must(del("a"))
	g.snap()
	list := g.file.list
	for range 30 {
		g.must(put("a", "2"))
		g.all()
	}
	if got := g.store.Space(); got.Held != len(list) || len(list) != 1 {
		t.Errorf("a snapshot without keys, of a list on %v, holds others: %+v", list, got)
	}
	tells(t, first.Snap, 1, nil)
}
