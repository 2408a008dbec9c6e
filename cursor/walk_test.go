package cursor_test

import (
	"math/rand"
	"testing"

	"codicil/api"
	"codicil/cursor"
)

// seek is Seek as a call without arguments.
func seek(c *cursor.Cursor, key string) func() (api.Pair, bool, api.Errno) {
	return func() (api.Pair, bool, api.Errno) { return c.Seek([]byte(key)) }
}

// mark is a cursor beside a list: at is the number of its pair, -1 ahead, as many as there are behind.
type mark struct {
	*ground
	at int
}

func (m *mark) pair() (pair, bool) {
	if m.at < 0 || m.at == len(m.list) {
		return pair{}, false
	}
	return m.list[m.at], true
}

func (m *mark) next() (pair, bool) {
	m.at = min(m.at+1, len(m.list))
	return m.pair()
}

func (m *mark) prev() (pair, bool) {
	m.at = max(m.at-1, -1)
	return m.pair()
}

func (m *mark) seek(key string) (pair, bool) {
	for m.at = 0; m.at < len(m.list) && m.list[m.at].key < key; m.at++ {
	}
	return m.pair()
}

// does lets a cursor and its mark make the same step; it says what they differ in.
func (m *mark) does(c *cursor.Cursor, step int, key string) {
	m.Helper()
	var got api.Pair
	var is, there bool
	var err api.Errno
	var want pair
	from, name := m.at, "Next"
	switch step {
	case 0:
		got, is, err = c.Next()
		want, there = m.next()
	case 1:
		name = "Prev"
		got, is, err = c.Prev()
		want, there = m.prev()
	case 2:
		name = "Seek of " + short(key)
		got, is, err = c.Seek([]byte(key))
		want, there = m.seek(key)
	default:
		c.End()
		m.at = len(m.list)
		return
	}
	if !same(got, is, err, want, there) {
		m.Fatalf("%s from %d of %d: %s and %d bytes, %v, %v; not %s and %d bytes", name, from, len(m.list), short(string(got.Key)), len(got.Value), is, err, short(want.key), len(want.value))
	}
}

// wanders holds a new cursor against the list over a row of any steps, with runs one way.
func (g *ground) wanders(c *cursor.Cursor, r *rand.Rand, steps int) {
	g.Helper()
	m := &mark{g, -1}
	froms := g.froms()
	for range steps {
		step, run := []int{0, 0, 0, 1, 1, 1, 2, 2, 3}[r.Intn(9)], 1
		if step < 2 && r.Intn(4) == 0 {
			run = 1 + r.Intn(6)
		}
		for range run {
			m.does(c, step, froms[r.Intn(len(froms))])
		}
	}
}

func TestCursorsAgainstAList(t *testing.T) {
	for _, most := range []int{1, 3, 2000} {
		r := rand.New(rand.NewSource(int64(most)))
		for _, g := range trees(t, most) {
			for range 5 {
				g.wanders(cursor.New(g.pool, g.root), r, 300)
			}
		}
	}
}

// TestAllRowsOfFewSteps: all there are of four steps, each of one of twelve kinds.
func TestAllRowsOfFewSteps(t *testing.T) {
	g := ace(t)
	keys := []string{"", "a", "a\x00", "b", "c", "d", "e", "e\x00", "z"}
	for row := range 12 * 12 * 12 * 12 {
		c, m := cursor.New(g.pool, g.root), &mark{g, -1}
		for range 4 {
			if kind := row % 12; kind < 9 {
				m.does(c, 2, keys[kind])
			} else {
				m.does(c, []int{0, 1, 3}[kind-9], "")
			}
			row /= 12
		}
	}
}

// TestFirstCalls: of each kind, of a new cursor of each tree.
func TestFirstCalls(t *testing.T) {
	for _, g := range trees(t, 9) {
		for step := range 4 {
			for _, key := range g.froms()[:min(20, len(g.froms()))] {
				c, m := cursor.New(g.pool, g.root), &mark{g, -1}
				m.does(c, step, key)
				m.does(c, 0, "")
				m.does(c, 1, "")
			}
		}
	}
}

// TestBeyondTheEnds: Next behind and Prev ahead, asked again and again, tell nothing, and read nothing.
func TestBeyondTheEnds(t *testing.T) {
	for _, g := range trees(t, 9) {
		c, m := cursor.New(g.pool, g.root), &mark{g, -1}
		ends := func(step int) {
			t.Helper()
			g.costs("beyond the end", 0, func() {
				for range 5 {
					m.does(c, step, "")
				}
			})
		}
		ends(1)
		m.does(c, 0, "")
		m.does(c, 1, "")
		ends(1)
		m.does(c, 3, "")
		ends(0)
		m.does(c, 1, "")
		m.does(c, 0, "")
		ends(0)
		m.does(c, 2, "\xff\xff")
		ends(0)
		m.does(c, 1, "")
		m.does(c, 2, "")
		m.does(c, 1, "")
		ends(1)
		m.does(c, 0, "")
	}
}

// TestTwoCursors of one tree, in one pool, know nothing of one another.
func TestTwoCursors(t *testing.T) {
	for _, g := range trees(t, 2) {
		r := rand.New(rand.NewSource(3))
		a, b := cursor.New(g.pool, g.root), cursor.New(g.pool, g.root)
		one, two := &mark{g, -1}, &mark{g, -1}
		froms := g.froms()
		for range 400 {
			one.does(a, r.Intn(4), froms[r.Intn(len(froms))])
			for range r.Intn(3) {
				two.does(b, r.Intn(3), froms[r.Intn(len(froms))])
			}
		}
	}
}

// TestCursorsOfTwoTrees on one disk: one has some pages of the other.
func TestCursorsOfTwoTrees(t *testing.T) {
	g := planted(t, 5, some(200, numbered))
	other := g.edited(map[string]string{numbered(31): mixed(3000, 1), "a": "first", "z": "last"}, numbered(0), numbered(100), numbered(398))
	r := rand.New(rand.NewSource(4))
	a, b := cursor.New(g.pool, g.root), cursor.New(g.pool, other.root)
	one, two := &mark{g, -1}, &mark{other, -1}
	froms := append(g.froms(), other.froms()...)
	for range 1000 {
		one.does(a, r.Intn(4), froms[r.Intn(len(froms))])
		two.does(b, r.Intn(4), froms[r.Intn(len(froms))])
	}
	g.rises()
	other.rises()
	other.tellsAll()
}
