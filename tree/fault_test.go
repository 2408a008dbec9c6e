package tree_test

import (
	"slices"
	"testing"

	"codicil/api"
	"codicil/pool"
	"codicil/tree"
)

// call is one that reads; it tells its error, and says itself if what it tells is wrong.
type call struct {
	name string
	do   func(p *pool.Pool) api.Errno
}

// calls are such ones of a ground's tree, with pages of all levels and great values in them.
func calls(g *ground, root uint32) []call {
	x := g.trees[root]
	out := []call{{"Walk", func(p *pool.Pool) api.Errno {
		pages, keys, err := tree.Walk(p, root)
		g.zeroes("Walk", err, len(pages) == 0 && keys == 0, slices.Equal(pages, x.pages) && keys == len(x.pairs))
		return err
	}}}
	for key, want := range map[string]string{"": "", numbered(0): x.pairs[numbered(0)], numbered(149): x.pairs[numbered(149)], "great": x.pairs["great"], "greater": x.pairs["greater"], "none": ""} {
		_, there := x.pairs[key]
		out = append(out, call{"Get of " + key, func(p *pool.Pool) api.Errno {
			value, is, err := tree.Get(p, root, []byte(key))
			g.zeroes("Get", err, len(value) == 0 && !is, string(value) == want && is == there)
			return err
		}})
	}
	for _, l := range [][]api.Change{
		{put("a", "1")}, {put("great", "1")}, {del("great"), del("greater")}, {put("greater", mixed(4000, 1))}, {del("none")}, dels(0, 150), dels(20, 40), puts(100, 200, mixed(60, 2)),
	} {
		want := g.draft(root, l...)
		out = append(out, call{"Edit", func(p *pool.Pool) api.Errno {
			d, err := tree.Edit(p, root, l)
			g.zeroes("Edit", err, d == nil, d != nil && d.Need() == want.Need() && slices.Equal(d.Gone(), want.Gone()) && d.More() == want.More())
			return err
		}})
	}
	return out
}

// zeroes looks whether an answer is zero beside an error, and right without one.
func (g *ground) zeroes(what string, err api.Errno, zero, right bool) {
	g.Helper()
	if err != api.OK && !zero || err == api.OK && !right {
		g.Errorf("%s: a wrong answer beside %v", what, err)
	}
}

func withCalls(t *testing.T) (*ground, uint32) {
	t.Helper()
	g := newGround(t, 300, 300)
	root := g.edit(0, append(puts(0, 150, mixed(30, 3)), put("great", mixed(3000, 4)), put("greater", mixed(8192, 5)))...)
	g.disk.Sync()
	return g, root
}

// TestReadsThatFail: each of a call's, in pools of some sizes; that error is the answer, and the same call, asked again, goes well.
func TestReadsThatFail(t *testing.T) {
	g, root := withCalls(t)
	for _, c := range calls(g, root) {
		for _, most := range []int{1, 4, 300} {
			before := g.disk.Counts()
			if err := c.do(newPool(t, g.disk, most)); err != api.OK {
				t.Fatalf("%s: %v", c.name, err)
			}
			reads := g.disk.Counts().Reads - before.Reads
			if reads == 0 {
				t.Errorf("%s: no read", c.name)
			}
			for failing := range reads {
				p := newPool(t, g.disk, most)
				g.disk.Fail(readKind, failing)
				g.costs(c.name+" that fails", failing+1, 0, func() {
					if err := c.do(p); err != api.ErrIO {
						t.Errorf("%s: %v behind %d reads of %d", c.name, err, failing, reads)
					}
				})
				if err := c.do(p); err != api.OK {
					t.Errorf("%s asked again: %v", c.name, err)
				}
			}
		}
	}
	g.stands(root)
}

// TestReadsBehindATrip: ErrDark, also when the call is asked again in the dark, as long as not all is at hand; behind a cut it goes well.
func TestReadsBehindATrip(t *testing.T) {
	g, root := withCalls(t)
	for _, c := range calls(g, root) {
		before := g.disk.Counts()
		c.do(newPool(t, g.disk, 5))
		reads := g.disk.Counts().Reads - before.Reads
		for trip := range reads {
			p := newPool(t, g.disk, 5)
			g.disk.Trip(trip)
			g.costs(c.name+" behind a trip", trip, 0, func() {
				for range 2 {
					if err := c.do(p); err != api.ErrDark {
						t.Errorf("%s: %v behind %d reads of %d", c.name, err, trip, reads)
					}
				}
			})
			g.disk.Cut()
			if err := c.do(p); err != api.OK {
				t.Errorf("%s behind a cut: %v", c.name, err)
			}
		}
	}
	g.stands(root)
}

// TestOtherFaultsTouchNoRead: of writes and syncs.
func TestOtherFaultsTouchNoRead(t *testing.T) {
	g, root := withCalls(t)
	g.disk.Fail(writeKind, 0)
	g.disk.Fail(3, 0)
	for _, c := range calls(g, root) {
		if err := c.do(newPool(t, g.disk, 3)); err != api.OK {
			t.Errorf("%s: %v", c.name, err)
		}
	}
	if g.disk.Sync() != api.ErrIO || g.disk.Write(299, make([]byte, 1024)) != api.ErrIO {
		t.Error("a fault of another kind is used up")
	}
}

// TestWhatIsAtHandIsNotRead: calls of pages at hand do nothing, also in the dark.
func TestWhatIsAtHandIsNotRead(t *testing.T) {
	g, root := withCalls(t)
	g.walks(root, g.trees[root])
	g.disk.Trip(0)
	g.costs("calls of what is at hand", 0, 0, func() {
		for _, c := range calls(g, root) {
			if err := c.do(g.pool); err != api.OK {
				t.Errorf("%s: %v", c.name, err)
			}
		}
	})
	if g.disk.Dark() {
		t.Error("the trip is used up")
	}
}

// TestWalkReadsEachPageOnce, and Get those on the way to its key alone.
func TestWalkReadsEachPageOnce(t *testing.T) {
	g, root := withCalls(t)
	g.pool = newPool(t, g.disk, 1)
	x := g.trees[root]
	g.costs("Walk", len(x.pages), 0, func() { g.walks(root, x) })
	for key, great := range map[string]int{numbered(0): 0, numbered(149): 0, "none": 0, "great": 3, "greater": 9} {
		g.pool = newPool(t, g.disk, 1)
		value, is := x.pairs[key]
		g.costs("Get of "+key, x.levels+great, 0, func() { g.tells(root, key, value, is) })
	}
}

// TestTheHighestTreeWithFaults: a tree that is made anew as a whole is read as a whole.
func TestTheHighestTreeWithFaults(t *testing.T) {
	g, root := theHighest(t)
	l := []api.Change{put(longKey(1000)[:159]+"z", mixed(64, 5))}
	count := func(p *pool.Pool) (int, api.Errno) {
		before := g.disk.Counts().Reads
		_, err := tree.Edit(p, root, l)
		return g.disk.Counts().Reads - before, err
	}
	reads, err := count(newPool(t, g.disk, 3000))
	if err != api.OK || reads < len(g.trees[root].pages) {
		t.Fatalf("%d reads of %d pages, %v", reads, len(g.trees[root].pages), err)
	}
	for failing := 0; failing < reads; failing += 1 + failing/20 {
		p := newPool(t, g.disk, 3000)
		g.disk.Fail(readKind, failing)
		if _, err := count(p); err != api.ErrIO {
			t.Errorf("%v behind %d reads of %d", err, failing, reads)
		}
		if _, err := count(p); err != api.OK {
			t.Errorf("asked again: %v", err)
		}
	}
}
