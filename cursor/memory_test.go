package cursor_test

import (
	"bytes"
	"slices"
	"testing"

	"codicil/api"
	"codicil/cursor"
	"codicil/tree"
)

// spoilPair changes all of what was told.
func spoilPair(x api.Pair) {
	spoil(x.Key)
	spoil(x.Value)
}

// TestWhatIsHandedInStays: it is not changed, nor is what lies behind it, which is not read either.
func TestWhatIsHandedInStays(t *testing.T) {
	g := withCalls(t)
	c := newCursor(g)
	for _, from := range g.froms() {
		key := withRoom([]byte(from), 200, 'k')
		before := bytes.Clone(key[:cap(key)])
		for _, in := range []bool{false, true} {
			want, there := g.plainNext(from, in)
			if got, is, err := cursor.Next(g.pool, g.root, key, in); !same(got, is, err, want, there) {
				t.Errorf("Next(%s): %q, %v, %v", short(from), got.Key, is, err)
			}
			want, there = g.plainPrev(from, in)
			if got, is, err := cursor.Prev(g.pool, g.root, key, in); !same(got, is, err, want, there) {
				t.Errorf("Prev(%s): %q, %v, %v", short(from), got.Key, is, err)
			}
		}
		want, there := g.plainNext(from, true)
		if got, is, err := c.Seek(key); !same(got, is, err, want, there) {
			t.Errorf("Seek(%s): %q, %v, %v", short(from), got.Key, is, err)
		}
		if !bytes.Equal(key[:cap(key)], before) {
			t.Errorf("the key %s has changed", short(from))
		}
	}
}

// TestAKeyThatIsChangedBehindSeek: the cursor stands where it did.
func TestAKeyThatIsChangedBehindSeek(t *testing.T) {
	g := withCalls(t)
	for step := range 2 {
		for _, from := range g.froms() {
			c, m := newCursor(g), &mark{g, -1}
			key := []byte(from)
			c.Seek(key)
			m.seek(from)
			spoil(key)
			m.does(c, step, "")
			m.does(c, step, "")
		}
	}
}

// TestWhatComesOutIsNewMemory: of all calls, spoilt in turn with the room behind it; what is told next is right all the same.
func TestWhatComesOutIsNewMemory(t *testing.T) {
	for _, most := range []int{1, 300} {
		g := withCalls(t)
		g.pool = newPool(t, g.disk, most)
		for range 2 {
			for _, from := range g.froms() {
				for _, in := range []bool{false, true} {
					got, _, _ := cursor.Next(g.pool, g.root, []byte(from), in)
					spoilPair(got)
					got, _, _ = cursor.Prev(g.pool, g.root, []byte(from), in)
					spoilPair(got)
				}
			}
			g.rises()
		}
	}
}

// TestACursorKeepsNothingOfWhatItTold: each pair is spoilt ahead of the next step.
func TestACursorKeepsNothingOfWhatItTold(t *testing.T) {
	g := withCalls(t)
	c, m := newCursor(g), &mark{g, -1}
	walk := func(call func() (api.Pair, bool, api.Errno), mark func() (pair, bool)) {
		t.Helper()
		for range len(g.list) + 3 {
			want, there := mark()
			got, is, err := call()
			if !same(got, is, err, want, there) {
				t.Fatalf("%q, %v, %v; not %q", got.Key, is, err, want.key)
			}
			spoilPair(got)
		}
	}
	walk(c.Next, m.next)
	walk(c.Prev, m.prev)
	for _, key := range []string{"great", numbered(40), numbered(41)} {
		got, _, _ := c.Seek([]byte(key))
		m.seek(key)
		spoilPair(got)
		m.does(c, 0, "")
		got, _, _ = c.Seek([]byte(key))
		m.seek(key)
		spoilPair(got)
		m.does(c, 1, "")
	}
}

// TestWhatComesOutSharesNothing: a pair's two lists, and those of two calls, and the room behind them.
func TestWhatComesOutSharesNothing(t *testing.T) {
	g := withCalls(t)
	for _, x := range g.list {
		want := []string{x.key, x.value, x.key, x.value}
		told := func() [][]byte {
			a, _, _ := cursor.Next(g.pool, g.root, []byte(x.key), true)
			b, _, _ := newCursor(g).Seek([]byte(x.key))
			return [][]byte{a.Key, a.Value, b.Key, b.Value}
		}
		lists := told()
		for at, list := range lists {
			if string(list) != want[at] {
				t.Fatalf("%s: two lists share memory", x.key)
			}
			spoil(list)
		}
		lists = told()
		for at, list := range lists {
			lists[at] = append(list, byte(at))
		}
		for at, list := range lists {
			if string(list) != want[at]+string([]byte{byte(at)}) {
				t.Fatalf("%s: room behind two lists is shared", x.key)
			}
		}
	}
}

// TestWhatWasToldStays: also when its pages are written anew.
func TestWhatWasToldStays(t *testing.T) {
	g := withCalls(t)
	c := newCursor(g)
	var told []api.Pair
	for got, is, _ := c.Next(); is; got, is, _ = c.Next() {
		told = append(told, got)
	}
	pages, _, _ := tree.Walk(g.pool, g.root)
	for _, number := range pages {
		g.pool.Write(number, 4, []byte("something else"))
	}
	g.refusesAll(api.ErrTreeForm, "", "great", "zz")
	for at, x := range g.list {
		if string(told[at].Key) != x.key || string(told[at].Value) != x.value {
			t.Errorf("what was told of %s has changed", x.key)
		}
	}
}

// TestReadingChangesNothingOfTheDisk: neither what lasts nor what waits.
func TestReadingChangesNothingOfTheDisk(t *testing.T) {
	g := withCalls(t)
	g.disk.Write(1999, make([]byte, 128))
	image, pending := g.disk.Image(), g.disk.Pending()
	g.pool = newPool(t, g.disk, 2)
	g.rises()
	g.tellsAll()
	if !bytes.Equal(g.disk.Image(), image) || !slices.Equal(g.disk.Pending(), pending) {
		t.Error("the disk has changed")
	}
}
