package commit_test

import (
	"maps"
	"math/rand"
	"testing"

	"codicil/api"
	"codicil/commit"
	"codicil/disk"
)

// scene is a file ahead of an Apply.
type scene struct {
	name     string
	image    []byte
	old, new map[string]string
	l        []api.Change
	last     uint64 // the generation
}

// scenes are of unlike sizes; the last one has more pages than are kept at hand, so that Apply reads, and a list of several.
func scenes(t testing.TB) []scene {
	t.Helper()
	empty := newGround(t, 30)
	one := newGround(t, 40)
	one.must(put("a", "1"))
	few := newGround(t, 120)
	few.must(append(puts(0, 60, mixed(30, 1)), put("great", mixed(3000, 2)))...)
	few.must(dels(10, 20)...)
	few.must(put("greater", mixed(8192, 3)))
	last := newGround(t, 40)
	last.must(puts(0, 30, mixed(30, 1))...)
	return []scene{
		sceneOf("a first put", empty, put("a", "1")),
		sceneOf("nothing", empty),
		sceneOf("another value", one, put("a", "2")),
		sceneOf("nothing where something is", one),
		sceneOf("the last key is taken away", one, del("a")),
		sceneOf("a great value", one, put("b", mixed(1005, 9))),
		sceneOf("some of each", few, put("great", mixed(2000, 4)), del("greater"), put("a", "1"), del(numbered(3)), put(numbered(50), "")),
		sceneOf("all keys are taken away", last, dels(0, 30)...),
	}
}

// manyPages is a scene of more pages than are kept at hand.
func manyPages(t testing.TB) scene {
	t.Helper()
	g := newGround(t, 1200)
	var l []api.Change
	for n := range 70 {
		l = append(l, put(numbered(n), mixed(8192, uint32(n))))
	}
	g.must(l...)
	g.must(dels(3, 40)...)
	return sceneOf("many pages", g, put(numbered(0), "small"), del(numbered(1)), put(numbered(65), mixed(1005, 9)), put("z", "1"))
}

func sceneOf(name string, g *ground, l ...api.Change) scene {
	return scene{name, g.disk.Image(), g.now, changed(g.now, l), l, g.file.meta.Generation}
}

func (c scene) open(t testing.TB) (*disk.Disk, *commit.Store) {
	t.Helper()
	d := loaded(t, c.image)
	return d, opened(t, d)
}

// costs are the operations of the Apply, and what Space tells behind it.
func (c scene) costs(t testing.TB) (api.Counts, api.Space) {
	t.Helper()
	d, s := c.open(t)
	before := d.Counts()
	applies(t, s, api.OK, c.l...)
	after := d.Counts()
	return api.Counts{Reads: after.Reads - before.Reads, Writes: after.Writes - before.Writes, Syncs: after.Syncs - before.Syncs}, s.Space()
}

// isOld looks whether a store has what it had ahead of the Apply.
func (c scene) isOld(t testing.TB, s *commit.Store) {
	t.Helper()
	n := s.Snap()
	tells(t, n, c.last, c.old)
	n.Drop()
}

func (c scene) isNew(t testing.TB, s *commit.Store) {
	t.Helper()
	n := s.Snap()
	tells(t, n, c.last+1, c.new)
	n.Drop()
}

// keeps are ways in which a cut may keep some of n writes: none, all, halves, one, all but one, by chance.
func keeps(n int, chance int64) [][]bool {
	r := rand.New(rand.NewSource(chance))
	out := [][]bool{nil}
	for _, kept := range []func(at int) bool{
		func(int) bool { return true },
		func(at int) bool { return at%2 == 0 },
		func(at int) bool { return at%2 == 1 },
		func(at int) bool { return at < n/2 },
		func(at int) bool { return at >= n/2 },
		func(at int) bool { return at == n-1 },
		func(at int) bool { return at != n-1 },
		func(at int) bool { return at == 0 },
		func(at int) bool { return at != 0 },
		func(int) bool { return r.Intn(2) == 0 },
		func(int) bool { return r.Intn(10) == 0 },
		func(int) bool { return r.Intn(10) != 0 },
	} {
		keep := make([]bool, n)
		for at := range keep {
			keep[at] = kept(at)
		}
		out = append(out, keep)
	}
	return out
}

// contents is all that a store has, by its newest state, and the generation of that.
func contents(t testing.TB, s *commit.Store) (map[string]string, uint64) {
	t.Helper()
	n := s.Snap()
	defer n.Drop()
	out := map[string]string{}
	for pair, is, err := n.Next(nil, true); is || err != api.OK; pair, is, err = n.Next(pair.Key, false) {
		if err != api.OK {
			t.Fatal(err)
		}
		out[string(pair.Key)] = string(pair.Value)
	}
	tells(t, n, n.Generation(), out)
	return out, n.Generation()
}

// sound looks whether a disk has a right file of just one of these, which is the newest, and whether it can go on from there.
func sound(t testing.TB, d *disk.Disk, may ...map[string]string) {
	t.Helper()
	s := opened(t, d)
	got, generation := contents(t, s)
	for _, want := range may {
		if maps.Equal(got, want) {
			f, err := plainFile(d.Image())
			if err != api.OK || !maps.Equal(f.pairs, got) {
				t.Errorf("the file is wrong: %v", err)
			}
			applies(t, s, api.OK, put("behind", "1"))
			tells(t, opened(t, d).Snap(), generation+1, changed(got, []api.Change{put("behind", "1")}))
			return
		}
	}
	t.Errorf("generation %d with %d keys is none that was told or under way", generation, len(got))
}
