package cursor_test

import (
	"testing"

	"codicil/api"
	"codicil/cursor"
	"codicil/pool"
)

// call is one that reads; it tells its error, and says itself if what it tells beside it is wrong.
type call struct {
	name string
	do   func(p *pool.Pool) api.Errno
}

// told looks whether an answer is empty beside an error, and what the list tells without one.
func (g *ground) told(what string, got api.Pair, is bool, err api.Errno, want pair, there bool) api.Errno {
	g.Helper()
	if err != api.OK {
		g.refuses(what, err, got, is, err)
	} else if !same(got, is, err, want, there) {
		g.Errorf("%s: %s and %d bytes, %v; not %s and %d bytes", what, short(string(got.Key)), len(got.Value), is, short(want.key), len(want.value))
	}
	return err
}

// calls are those of a root, from keys that are there and from others.
func calls(g *ground) []call {
	var out []call
	for _, from := range []string{"", g.list[0].key, g.list[len(g.list)-1].key, "great", "greater", "greats", numbered(100), numbered(101), "zz"} {
		for _, in := range []bool{false, true} {
			next, above := g.plainNext(from, in)
			out = append(out, call{"Next from " + from, func(p *pool.Pool) api.Errno {
				got, is, err := cursor.Next(p, g.root, []byte(from), in)
				return g.told("Next", got, is, err, next, above)
			}})
			prev, below := g.plainPrev(from, in)
			out = append(out, call{"Prev from " + from, func(p *pool.Pool) api.Errno {
				got, is, err := cursor.Prev(p, g.root, []byte(from), in)
				return g.told("Prev", got, is, err, prev, below)
			}})
		}
	}
	return out
}

func withCalls(t *testing.T) *ground {
	t.Helper()
	all := map[string]string{"great": mixed(3000, 4), "greater": mixed(8192, 5), "z": mixed(65, 6)}
	for i := range 150 {
		all[numbered(2*i)] = mixed(30, uint32(i))
	}
	return planted(t, 300, all)
}

// TestReadsThatFail: each of a call's, in pools of some sizes; that error is the answer, and the same call, asked again, goes well.
func TestReadsThatFail(t *testing.T) {
	g := withCalls(t)
	for _, c := range calls(g) {
		for _, most := range []int{1, 4, 300} {
			before := g.disk.Counts()
			if err := c.do(newPool(t, g.disk, most)); err != api.OK {
				t.Fatalf("%s: %v", c.name, err)
			}
			reads := g.disk.Counts().Reads - before.Reads
			if reads == 0 {
				t.Errorf("%s: no read", c.name)
			}
			for failing := range reads {
				p := newPool(t, g.disk, most)
				g.disk.Fail(readKind, failing)
				g.costs(c.name+" that fails", failing+1, func() {
					if err := c.do(p); err != api.ErrIO {
						t.Errorf("%s: %v behind %d reads of %d", c.name, err, failing, reads)
					}
				})
				if err := c.do(p); err != api.OK {
					t.Errorf("%s asked again: %v", c.name, err)
				}
			}
		}
	}
	g.rises()
}

// TestReadsBehindATrip: ErrDark, also when the call is asked again in the dark; behind a cut it goes well.
func TestReadsBehindATrip(t *testing.T) {
	g := withCalls(t)
	for _, c := range calls(g) {
		before := g.disk.Counts()
		c.do(newPool(t, g.disk, 5))
		reads := g.disk.Counts().Reads - before.Reads
		for trip := range reads {
			p := newPool(t, g.disk, 5)
			g.disk.Trip(trip)
			g.costs(c.name+" behind a trip", trip, func() {
				for range 2 {
					if err := c.do(p); err != api.ErrDark {
						t.Errorf("%s: %v behind %d reads of %d", c.name, err, trip, reads)
					}
				}
			})
			g.disk.Cut()
			if err := c.do(p); err != api.OK {
				t.Errorf("%s behind a cut: %v", c.name, err)
			}
		}
	}
	g.rises()
}

// TestWhatIsAtHandIsNotRead: calls of pages at hand do nothing, also in the dark.
func TestWhatIsAtHandIsNotRead(t *testing.T) {
	g := withCalls(t)
	g.rises()
	g.disk.Trip(0)
	g.costs("calls of what is at hand", 0, func() {
		for _, c := range calls(g) {
			if err := c.do(g.pool); err != api.OK {
				t.Errorf("%s: %v", c.name, err)
			}
		}
		g.rises()
	})
	if g.disk.Dark() {
		t.Error("the trip is used up")
	}
}

// TestOtherFaultsTouchNoRead: of writes and syncs.
func TestOtherFaultsTouchNoRead(t *testing.T) {
	g := withCalls(t)
	g.disk.Fail(2, 0)
	g.disk.Fail(3, 0)
	for _, c := range calls(g) {
		if err := c.do(newPool(t, g.disk, 3)); err != api.OK {
			t.Errorf("%s: %v", c.name, err)
		}
	}
	if g.disk.Sync() != api.ErrIO || g.disk.Write(299, make([]byte, 1024)) != api.ErrIO {
		t.Error("a fault of another kind is used up")
	}
}

// TestOnlyWhatIsToldIsRead: the way to a key, and its value; no value of another key, and no page behind it.
func TestOnlyWhatIsToldIsRead(t *testing.T) {
	g := withCalls(t)
	levels := g.levels()
	for _, x := range []struct {
		from  string
		great int
	}{{"", 3}, {"great\x00", 9}, {"greater\x00", 0}, {numbered(40), 0}, {"z", 1}} {
		p := newPool(t, g.disk, 1)
		g.costs("Seek of "+x.from, levels+x.great, func() { cursor.New(p, g.root).Seek([]byte(x.from)) })
	}
	p := newPool(t, g.disk, 1)
	c := cursor.New(p, g.root)
	c.End()
	g.costs("Prev behind", levels+1, func() { c.Prev() })
	g.costs("New and End", 0, func() { cursor.New(p, g.root).End() })
}

// stand is where a cursor is brought to, and which number of the list that is.
type stand struct {
	name string
	at   int
	come func(c *cursor.Cursor)
}

func stands(g *ground) []stand {
	last := len(g.list) - 1
	to := func(at int) func(*cursor.Cursor) {
		return func(c *cursor.Cursor) { c.Seek([]byte(g.list[at].key)) }
	}
	return []stand{
		{"ahead", -1, func(*cursor.Cursor) {}},
		{"ahead behind a Prev", -1, func(c *cursor.Cursor) { c.Next(); c.Prev() }},
		{"at the first key", 0, to(0)},
		{"at the second key", 1, to(1)},
		{"amid", last / 2, to(last / 2)},
		{"at the last key", last, to(last)},
		{"behind", last + 1, func(c *cursor.Cursor) { c.End() }},
		{"behind a Next", last + 1, func(c *cursor.Cursor) { to(last)(c); c.Next() }},
		{"behind a Seek", last + 1, func(c *cursor.Cursor) { c.Seek([]byte("\xff")) }},
	}
}

// step is a cursor's call that reads, as its mark does it.
type step struct {
	name string
	do   func(c *cursor.Cursor) (api.Pair, bool, api.Errno)
	mark func(m *mark) (pair, bool)
}

func steps(g *ground) []step {
	out := []step{{"Next", (*cursor.Cursor).Next, (*mark).next}, {"Prev", (*cursor.Cursor).Prev, (*mark).prev}}
	for _, key := range []string{"", "greater", numbered(99), "\xff"} {
		out = append(out, step{"Seek", func(c *cursor.Cursor) (api.Pair, bool, api.Errno) { return c.Seek([]byte(key)) }, func(m *mark) (pair, bool) { return m.seek(key) }})
	}
	return out
}

// TestACursorStaysWithAnError: wherever it is, whichever of the reads fails, also behind a trip: what it tells next is as if the call had not been; and the same call goes well.
func TestACursorStaysWithAnError(t *testing.T) {
	g := withCalls(t)
	for _, from := range stands(g) {
		for _, x := range steps(g) {
			before := g.disk.Counts()
			c := cursor.New(newPool(t, g.disk, 1), g.root)
			from.come(c)
			middle := g.disk.Counts().Reads
			x.do(c)
			come, reads := middle-before.Reads, g.disk.Counts().Reads-middle
			for failing := range reads {
				g.stays(from, x, come+failing, false)
				g.stays(from, x, come+failing, true)
			}
		}
	}
}

// stays brings a cursor somewhere, lets a call of it fail behind some reads, and looks where it is: by the same call, and by others.
func (g *ground) stays(from stand, x step, failing int, dark bool) {
	g.Helper()
	for then := range 4 {
		p := newPool(g, g.disk, 1)
		c, m := cursor.New(p, g.root), &mark{g, from.at}
		want := api.ErrIO
		if dark {
			want = api.ErrDark
			g.disk.Trip(failing)
		} else {
			g.disk.Fail(readKind, failing)
		}
		from.come(c)
		for range 2 {
			got, is, err := x.do(c)
			g.refuses(x.name+" "+from.name, want, got, is, err)
			if !dark {
				break
			}
		}
		g.disk.Cut()
		switch then {
		case 0, 1:
			m.does(c, then, "")
		case 2:
			m.does(c, 0, "")
			m.does(c, 0, "")
		case 3:
			pair, there := x.mark(m)
			got, is, err := x.do(c)
			g.told(x.name+" again "+from.name, got, is, err, pair, there)
			m.does(c, 1, "")
		}
	}
}

// TestWhereThereIsNothingToRead: beyond the ends a fault is not met.
func TestWhereThereIsNothingToRead(t *testing.T) {
	g := withCalls(t)
	c := cursor.New(newPool(t, g.disk, 1), g.root)
	g.disk.Fail(readKind, 0)
	if got, is, err := c.Prev(); !same(got, is, err, pair{}, false) {
		t.Errorf("Prev ahead: %v, %v", is, err)
	}
	c.End()
	if got, is, err := c.Next(); !same(got, is, err, pair{}, false) {
		t.Errorf("Next behind: %v, %v", is, err)
	}
	got, is, err := c.Prev()
	g.refuses("Prev behind", api.ErrIO, got, is, err)
}
