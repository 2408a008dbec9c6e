package commit_test

import (
	"math/rand"
	"slices"
	"testing"

	"codicil/api"
)

// TestASmallFileNeverWearsOut: with snapshots that come and go, and with one that stays for ever.
func TestASmallFileNeverWearsOut(t *testing.T) {
	for _, stays := range []bool{false, true} {
		r := rand.New(rand.NewSource(5))
		g := newGround(t, 180)
		g.must(puts(0, 10, mixed(40, 1))...)
		if stays {
			g.snap()
		}
		oldest := len(g.live)
		for n := range 3000 {
			g.must(put(numbered(r.Intn(10)), mixed(sizes[r.Intn(6)], r.Uint32())))
			if n%7 == 0 {
				g.snap()
			}
			if len(g.live) > oldest+2 {
				g.drop(oldest + r.Intn(3))
				g.gone = nil
			}
			if n%100 == 0 {
				g.all()
			}
		}
		g.all()
		if stays && g.live[0].generation != 2 {
			t.Error("the oldest snapshot has not stayed")
		}
	}
}

// TestPagesOfNobody: a page that came and went behind a snapshot may be taken while that stays.
func TestPagesOfNobody(t *testing.T) {
	g := newGround(t, 60)
	g.must(puts(0, 30, mixed(30, 1))...)
	old := g.snap()
	for n := range 500 {
		g.must(put("other", mixed(1005, uint32(n))))
		g.space()
	}
	if got := g.store.Space(); got.Held > len(old.pages) {
		t.Errorf("%+v, and the snapshot has %d pages", got, len(old.pages))
	}
	g.all()
}

// fill puts great values till there is no room, and tells how many there are.
func (g *ground) fill() int {
	g.Helper()
	for n := 0; ; n++ {
		before := g.disk.Counts()
		switch err := g.apply(put(numbered(n), mixed(8192, uint32(n)))); {
		case err == api.ErrFull:
			if after := g.disk.Counts(); after.Writes != before.Writes || after.Syncs != before.Syncs {
				g.Error("ErrFull, and something was written")
			}
			return n
		case err != api.OK || n > 10000:
			g.Fatal(n, err)
		}
	}
}

// TestFull: behind ErrFull all is as it was, and with room again all goes on.
func TestFull(t *testing.T) {
	for _, pages := range []int{20, 100, 300, 1200} {
		g := newGround(t, pages)
		n := g.fill()
		g.all()
		for range 5 {
			if err := g.apply(put(numbered(n), mixed(8192, 1))); err != api.ErrFull {
				t.Errorf("%v", err)
			}
			g.space()
		}
		if got := g.store.Space(); got.Broken {
			t.Errorf("%+v", got)
		}
		tells(t, opened(t, g.disk).Snap(), g.file.meta.Generation, g.now)
		if pages > 300 { // a list of all that becomes free would take more pages than there are
			continue
		}
		g.must(dels(0, n)...)
		g.must()
		if again := g.fill(); again != n {
			t.Errorf("of %d pages there was room for %d values once, and then for %d", pages, n, again)
		}
		g.all()
	}
}

// TestFullBySnapshots: they alone take the room, and give it back.
func TestFullBySnapshots(t *testing.T) {
	g := newGround(t, 250)
	full := 0
	for n := range 400 {
		g.snap()
		err := g.apply(put("great", mixed(8192, uint32(n))))
		if err == api.ErrFull {
			full++
			g.all()
			for len(g.live) > 0 {
				g.drop(len(g.live) / 2)
			}
			g.gone = nil
			if got := g.store.Space(); got.Held != 0 || got.Free != got.Pages-2-got.Tree-got.Listed {
				t.Errorf("%+v", got)
			}
			g.must(put("great", mixed(8192, uint32(n))))
		}
		g.space()
	}
	if full < 5 {
		t.Errorf("%d times full", full)
	}
}

// TestRoomForAllThatIsPromised: of many changes at once, on disks that have just the room, and many unlike trees.
func TestRoomForAllThatIsPromised(t *testing.T) {
	for _, many := range []int{0, 1, 2, 5, 20, 60} {
		for seed := range int64(4) {
			r := rand.New(rand.NewSource(seed))
			var l []api.Change
			for range many {
				l = append(l, put(someKey(r, 400), mixed(sizes[r.Intn(len(sizes))], r.Uint32())))
				if r.Intn(3) == 0 {
					l = append(l, del(someKey(r, 400)))
				}
			}
			g := newGround(t, 900)
			g.must(puts(0, 200, mixed(60, 1))...)
			pages := g.store.Space().Tree + g.store.Space().Listed + 2
			used := pages
			for pages-used < promised(pages, l) {
				pages++
			}
			small := onDisk(t, g, pages)
			if got := small.store.Space(); got.Free != promised(pages, l) {
				t.Fatalf("%+v", got)
			}
			small.must(l...)
			small.all()
		}
	}
}

// onDisk is a store of the same pages on a disk of so many.
func onDisk(t testing.TB, g *ground, pages int) *ground {
	t.Helper()
	image := make([]byte, pages*api.PageSize)
	copy(image, g.disk.Image())
	out := &ground{TB: t, disk: loaded(t, image), now: g.now}
	out.store = opened(t, out.disk)
	out.reread()
	return out
}

// TestListsOfSomePages: of as many free pages as one page of a list has, of one fewer, of one more, and one whose last page has none.
func TestListsOfSomePages(t *testing.T) {
	type form struct{ free, list int }
	seen := map[form]bool{}
	g := newGround(t, 9)
	g.must(put("a", "1"))
	g.must(del("a"))
	seen[form{len(g.file.free), len(g.file.list)}] = true
	for great := range 270 {
		g := newGround(t, 700)
		var l []api.Change
		for n := range great {
			l = append(l, put(numbered(n), mixed(65, uint32(n))))
		}
		g.must(l...)
		g.must(dels(0, great)...)
		for range 3 {
			seen[form{len(g.file.free), len(g.file.list)}] = true
			g.must(put("b", mixed(10, 1)))
			g.all()
		}
		g.must(put("a", "1"))
		g.all()
		tells(t, opened(t, g.disk).Snap(), g.file.meta.Generation, g.now)
	}
	for _, want := range []form{{1, 1}, {2, 1}, {250, 1}, {251, 1}, {251, 2}, {252, 2}, {253, 2}} {
		if !seen[want] {
			t.Errorf("no list of %d pages on %d", want.free, want.list)
		}
	}
}

// TestListsOfSnapshots: a snapshot is a whole state: the pages on which it has its list are its own till it is dropped, also where there are no others.
func TestListsOfSnapshots(t *testing.T) {
	g := newGround(t, 60)
	g.must(puts(0, 20, mixed(60, 1))...)
	g.must(put("a", "1"))
	old := g.snap()
	lists := g.file.list
	if len(lists) == 0 {
		t.Fatal("no list")
	}
	g.must(put("a", "2"))
	before := g.store.Space()
	if want := len(g.needed()) - len(g.file.all()); before.Held != want || want <= len(lists) {
		t.Errorf("%+v", before)
	}
	for n := 0; g.apply(put("b"+numbered(n), mixed(65, 1))) == api.OK; n++ {
		for _, number := range lists {
			if slices.Contains(g.file.all(), number) {
				t.Errorf("page %d of a snapshot's list is taken", number)
			}
		}
		g.space()
	}
	tells(t, old.Snap, old.generation, old.pairs)
	held := g.store.Space().Held
	g.drop(0)
	if got := g.store.Space(); got.Held != 0 || got.Free < held {
		t.Errorf("%+v behind Drop, and %d pages were held", got, held)
	}
	g.must(dels(0, 5)...)
	g.all()
}
