package tree_test

import (
	"slices"
	"testing"

	"codicil/api"
	"codicil/tree"
)

// withDraft is a ground with a tree, and the changes of a draft that needs several pages: nodes and a great value.
func withDraft(t *testing.T) (*ground, uint32, []api.Change) {
	t.Helper()
	g := newGround(t, 200, 9)
	root := g.edit(0, append(puts(0, 150, "v"), put("great", mixed(3000, 1)))...)
	l := []api.Change{put("a", mixed(2500, 2)), put(numbered(3), mixed(64, 3)), del(numbered(149)), put("great", mixed(70, 4)), put("z", mixed(64, 5))}
	return g, root, l
}

func TestWriteRefusesPages(t *testing.T) {
	g, root, l := withDraft(t)
	d := g.draft(root, l...)
	need := d.Need()
	if need < 6 {
		t.Fatalf("Need %d", need)
	}
	right := g.free(need + 1)
	g.disk.Trip(0)
	g.costs("what is refused", 0, 0, func() {
		refusesWrite(t, d, g.pool, api.ErrArg)
		refusesWrite(t, d, g.pool, api.ErrArg, right[:1]...)
		refusesWrite(t, d, g.pool, api.ErrArg, right[:need-1]...)
		refusesWrite(t, d, g.pool, api.ErrArg, right...)
		refusesWrite(t, d, g.pool, api.ErrArg, append(slices.Clone(right), right...)...)
		for at := range need {
			for _, wrong := range []uint32{0, 1, 16384, 16385, 1 << 16, 1<<16 + 5, greatest} {
				l := slices.Clone(right[:need])
				l[at] = wrong
				refusesWrite(t, d, g.pool, api.ErrArg, l...)
			}
			for other := range need {
				l := slices.Clone(right[:need])
				if l[at] = l[other]; at != other {
					refusesWrite(t, d, g.pool, api.ErrArg, l...)
				}
			}
		}
	})
	if g.disk.Dark() {
		t.Error("a refused Write has used up the trip")
	}
	g.disk.Cut(everything(g)...)
	g.stands(root)
	g.writes(root, d, right[:need], l)
}

func everything(g *ground) []bool {
	return slices.Repeat([]bool{true}, len(g.disk.Pending()))
}

// writes lets a draft be written to these pages, and looks at what it became.
func (g *ground) writes(root uint32, d *tree.Draft, at []uint32, l []api.Change) uint32 {
	g.Helper()
	to, err := d.Write(g.pool, at)
	if err != api.OK {
		g.Fatalf("Write(%d): %v", at, err)
	}
	g.written(root, to, d, at, l)
	return to
}

// TestPagesInAnyOrder: rising, falling and mixed, the first and the last that may be.
func TestPagesInAnyOrder(t *testing.T) {
	g, root, l := withDraft(t)
	g.disk.Sync()
	need := g.draft(root, l...).Need()
	for i := range 3 {
		d := g.draft(root, l...)
		at := g.free(need)
		if i < 2 {
			slices.Sort(at)
		}
		if i == 1 {
			slices.Reverse(at)
		}
		g.stands(g.writes(root, d, at, l))
	}
	g.allStand()
	wide := newGround(t, 16384, 9)
	at := []uint32{16383, 2, 9000, 3, 16382}
	d := wide.draft(0, put("a", mixed(4000, 6)))
	wide.stands(wide.writes(0, d, at, []api.Change{put("a", mixed(4000, 6))}))
}

// TestEachPageIsWrittenOnce: the pages at, and nothing else is done.
func TestEachPageIsWrittenOnce(t *testing.T) {
	g, root, l := withDraft(t)
	var d *tree.Draft
	before := g.disk.Counts()
	d = g.draft(root, l...)
	if after := g.disk.Counts(); after.Writes != before.Writes || after.Syncs != before.Syncs {
		t.Errorf("Edit: counted are %+v, ahead of it %+v", after, before)
	}
	g.disk.Sync()
	at := g.free(d.Need())
	g.costs("Write", 0, len(at), func() {
		if _, err := d.Write(g.pool, at); err != api.OK {
			t.Fatal(err)
		}
	})
	var want []int
	for _, number := range slices.Sorted(slices.Values(at)) {
		for sector := range 8 {
			want = append(want, 8*int(number)+sector)
		}
	}
	if got := slices.Sorted(slices.Values(g.disk.Pending())); !slices.Equal(got, want) {
		t.Errorf("written are the sectors %d, not %d", got, want)
	}
}

// TestWritesThatFail: each of them; the same Write goes well when it is asked again, with the same pages and with others.
func TestWritesThatFail(t *testing.T) {
	g, root, l := withDraft(t)
	need := g.draft(root, l...).Need()
	for failing := range need {
		for _, same := range []bool{true, false} {
			d := g.draft(root, l...)
			at := g.free(2 * need)
			g.disk.Fail(writeKind, failing)
			g.costs("a Write that fails", 0, failing+1, func() { refusesWrite(t, d, g.pool, api.ErrIO, at[:need]...) })
			g.stands(root)
			if !same {
				at = at[need:]
			}
			to := g.writes(root, d, at[:need], l)
			g.stands(to)
			g.stands(root)
			g.drop(to)
		}
	}
}

func TestAWriteThatFailsTwice(t *testing.T) {
	g, root, l := withDraft(t)
	d := g.draft(root, l...)
	at := g.free(3 * d.Need())
	for i, failing := range []int{2, 0, 5, 1} {
		g.disk.Fail(writeKind, failing)
		refusesWrite(t, d, g.pool, api.ErrIO, at[i:i+d.Need()]...)
		refusesWrite(t, d, g.pool, api.ErrArg, at[i:i+d.Need()-1]...)
	}
	g.stands(g.writes(root, d, at[4:4+d.Need()], l))
	g.stands(root)
}

// TestWriteBehindATrip: behind a cut it goes well, through another pool, too, and the old tree stands, which was synced.
func TestWriteBehindATrip(t *testing.T) {
	g, root, l := withDraft(t)
	g.disk.Sync()
	need := g.draft(root, l...).Need()
	for trip := range need {
		d := g.draft(root, l...)
		at := g.free(2 * need)
		g.disk.Trip(trip)
		g.costs("a Write behind a trip", 0, trip, func() { refusesWrite(t, d, g.pool, api.ErrDark, at[:need]...) })
		g.costs("a Write in the dark", 0, 0, func() { refusesWrite(t, d, g.pool, api.ErrDark, at[:need]...) })
		g.disk.Cut(everything(g)[:len(g.disk.Pending())/2]...)
		g.pool = newPool(t, g.disk, 9)
		g.stands(root)
		at = at[need*(trip%2):][:need]
		to := g.writes(root, d, at, l)
		g.disk.Sync()
		g.pool = newPool(t, g.disk, 9)
		g.stands(to)
		g.drop(to)
	}
}

// TestPagesThatTheDiskHasNot: the pool's error is the answer, and other pages go well.
func TestPagesThatTheDiskHasNot(t *testing.T) {
	g, root, l := withDraft(t)
	d := g.draft(root, l...)
	at := g.free(d.Need())
	for i := range at {
		for _, beyond := range []uint32{200, 201, 16383} {
			wrong := slices.Clone(at)
			wrong[i] = beyond
			refusesWrite(t, d, g.pool, api.ErrRange, wrong...)
		}
	}
	g.stands(root)
	g.stands(g.writes(root, d, at, l))
}

// TestWriteToPagesThatAreGone: the new tree may stand where the old one stood.
func TestWriteToPagesThatAreGone(t *testing.T) {
	g := newGround(t, 100, 9)
	root := g.edit(0, append(puts(0, 60, "v"), put("great", mixed(3000, 7)))...)
	l := []api.Change{put("great", mixed(2000, 8)), put(numbered(0), "w")}
	d := g.draft(root, l...)
	if len(d.Gone()) < d.Need() {
		t.Fatalf("Need %d, Gone %d", d.Need(), d.Gone())
	}
	to := g.writes(root, d, d.Gone()[:d.Need()], l)
	g.stands(to)
}

// TestADraftStaysAsItIs: what it needs and what is gone, ahead of a Write and behind it, whatever else is written.
func TestADraftStaysAsItIs(t *testing.T) {
	g, root, l := withDraft(t)
	d := g.draft(root, l...)
	need, gone, more := d.Need(), d.Gone(), d.More()
	same := func(when string) {
		t.Helper()
		if d.Need() != need || !slices.Equal(d.Gone(), gone) || d.More() != more {
			t.Errorf("%s: Need %d, Gone %d, More %d", when, d.Need(), d.Gone(), d.More())
		}
	}
	same("at once")
	g.edit(root, dels(0, 150)...)
	same("behind another draft")
	refusesWrite(t, d, g.pool, api.ErrArg, 7)
	same("behind a refused Write")
	g.disk.Fail(writeKind, 1)
	at := g.free(need)
	refusesWrite(t, d, g.pool, api.ErrIO, at...)
	same("behind a Write that failed")
	to := g.writes(root, d, at, l)
	same("behind a Write")
	other := g.writes(root, d, g.free(need), l)
	same("behind another Write")
	if to == other {
		t.Error("two trees have one root")
	}
	g.allStand()
}

// TestWriteThroughAnotherPool: a draft knows no pool, nor a disk.
func TestWriteThroughAnotherPool(t *testing.T) {
	g, root, l := withDraft(t)
	d := g.draft(root, l...)
	elder := g.pool
	g.pool = newPool(t, g.disk, 1)
	to := g.writes(root, d, g.free(d.Need()), l)
	g.stands(to)
	elder.Forget(to)
	fresh, err := tree.Edit(elder, 0, []api.Change{put("a", "1"), put("b", mixed(1500, 9))})
	if err != api.OK {
		t.Fatal(err)
	}
	other := newGround(t, 9, 2)
	other.writes(0, fresh, []uint32{8, 2, 5}, []api.Change{put("a", "1"), put("b", mixed(1500, 9))})
	other.allStand()
	g.allStand()
}

// TestTheSameGivesTheSame: root, pages and bytes, whenever it is asked.
func TestTheSameGivesTheSame(t *testing.T) {
	var image []byte
	var root uint32
	for i := range 12 {
		g, from, l := withDraft(t)
		d := g.draft(from, l...)
		at := g.free(d.Need())
		to := g.writes(from, d, at, l)
		g.disk.Sync()
		if i > 0 && (to != root || !slices.Equal(g.disk.Image(), image)) {
			t.Fatal("the same changes on the same pages have given something else")
		}
		image, root = g.disk.Image(), to
	}
}
