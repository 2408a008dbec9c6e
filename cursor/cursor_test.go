package cursor_test

import (
	"math/rand"
	"strings"
	"testing"

	"codicil/api"
	"codicil/cursor"
)

// ace is the tree of the chapter's examples.
func ace(t testing.TB) *ground {
	t.Helper()
	return planted(t, 5, map[string]string{"a": "", "c": "3", "e": mixed(100, 1)})
}

func TestExampleOfRoots(t *testing.T) {
	g := ace(t)
	for _, x := range []struct {
		from string
		in   bool
		want string
	}{{"", false, "a"}, {"c", false, "e"}, {"c", true, "c"}, {"e", false, ""}} {
		got, is, err := cursor.Next(g.pool, g.root, []byte(x.from), x.in)
		if string(got.Key) != x.want || is != (x.want != "") || err != api.OK {
			t.Errorf("Next(%q, %v): %q, %v, %v", x.from, x.in, got.Key, is, err)
		}
	}
	for _, x := range []struct {
		from string
		in   bool
		want string
	}{{"c", false, "a"}, {"", true, "e"}, {"", false, ""}, {"b", true, "a"}} {
		got, is, err := cursor.Prev(g.pool, g.root, []byte(x.from), x.in)
		if string(got.Key) != x.want || is != (x.want != "") || err != api.OK {
			t.Errorf("Prev(%q, %v): %q, %v, %v", x.from, x.in, got.Key, is, err)
		}
	}
}

func TestExampleOfACursor(t *testing.T) {
	g := ace(t)
	c := cursor.New(g.pool, g.root)
	tells := func(what, want string, got api.Pair, is bool, err api.Errno) {
		t.Helper()
		if string(got.Key) != want || is != (want != "") || err != api.OK {
			t.Errorf("%s: %q, %v, %v", what, got.Key, is, err)
		}
	}
	got, is, err := c.Next()
	tells("Next", "a", got, is, err)
	got, is, err = c.Seek([]byte("b"))
	tells("Seek(b)", "c", got, is, err)
	got, is, err = c.Prev()
	tells("Prev", "a", got, is, err)
	got, is, err = c.Prev()
	tells("Prev at the first", "", got, is, err)
	got, is, err = c.Next()
	tells("Next ahead", "a", got, is, err)
	c.End()
	got, is, err = c.Prev()
	tells("Prev behind", "e", got, is, err)
	if string(got.Value) != mixed(100, 1) {
		t.Errorf("%d bytes", len(got.Value))
	}
}

// TestRootsAgainstAList: of keys that are there, beside each, and far from all, with pools of some sizes.
func TestRootsAgainstAList(t *testing.T) {
	for _, most := range []int{1, 4, 2000} {
		for name, g := range trees(t, most) {
			t.Log(name)
			g.tellsAll()
			g.rises()
		}
	}
}

// TestValuesOfAllSizes are told with their keys, both ways.
func TestValuesOfAllSizes(t *testing.T) {
	all := map[string]string{}
	for i, size := range sizes() {
		all[numbered(i)] = mixed(size, uint32(i))
		all[longKey(i)] = mixed(size, uint32(100+i))
	}
	g := planted(t, 3, all)
	g.tellsAll()
	g.rises()
	for i, size := range sizes() {
		c := cursor.New(g.pool, g.root)
		if got, is, err := c.Seek([]byte(numbered(i))); !same(got, is, err, pair{numbered(i), mixed(size, uint32(i))}, true) {
			t.Errorf("Seek of a key with %d bytes: %d bytes, %v, %v", size, len(got.Value), is, err)
		}
	}
}

// TestKeysOfLengthsAtTheEdge: the beginning of a key is less than it.
func TestKeysOfLengthsAtTheEdge(t *testing.T) {
	all := map[string]string{}
	for _, length := range []int{1, 2, 159, 160} {
		for _, c := range []string{"\x00", "k", "\xff"} {
			all[strings.Repeat(c, length)] = mixed(length%65, 1)
		}
	}
	g := planted(t, 9, all)
	g.tellsAll()
	g.rises()
	for _, c := range []string{"\x00", "k", "\xff"} {
		for length := range 165 {
			g.tells(strings.Repeat(c, length))
		}
	}
}

// TestTheTreeWithoutKeys tells nothing, and reads nothing.
func TestTheTreeWithoutKeys(t *testing.T) {
	g := planted(t, 1, nil)
	if g.root != 0 {
		t.Fatal(g.root)
	}
	g.disk.Trip(0)
	g.costs("calls of the root 0", 0, func() {
		g.tellsAll()
		c := cursor.New(g.pool, 0)
		for _, call := range []func() (api.Pair, bool, api.Errno){c.Next, c.Next, c.Prev, c.Prev, c.Next, seek(c, ""), c.Prev, seek(c, "k"), c.Next} {
			if got, is, err := call(); !same(got, is, err, pair{}, false) {
				t.Errorf("%q, %v, %v", got.Key, is, err)
			}
		}
		c.End()
		if got, is, err := c.Prev(); !same(got, is, err, pair{}, false) {
			t.Errorf("behind: %q, %v, %v", got.Key, is, err)
		}
	})
}

// TestListsAndEmptyOnes: no from, and one without bytes, are the same.
func TestListsAndEmptyOnes(t *testing.T) {
	g := ace(t)
	for _, from := range [][]byte{nil, {}, withRoom(nil, 3, 'c')} {
		for in, want := range map[bool]string{false: "", true: "e"} {
			got, is, err := cursor.Next(g.pool, g.root, from, in)
			if string(got.Key) != "a" || !is || err != api.OK {
				t.Errorf("Next: %q, %v, %v", got.Key, is, err)
			}
			got, is, err = cursor.Prev(g.pool, g.root, from, in)
			if string(got.Key) != want || is != in || err != api.OK {
				t.Errorf("Prev: %q, %v, %v", got.Key, is, err)
			}
		}
		if got, is, err := cursor.New(g.pool, g.root).Seek(from); string(got.Key) != "a" || !is || err != api.OK {
			t.Errorf("Seek: %q, %v, %v", got.Key, is, err)
		}
	}
}

// TestTreesOfAnyShape: also of such as no Edit makes, with as many levels as may be.
func TestTreesOfAnyShape(t *testing.T) {
	deep := 0
	for seed := range int64(60) {
		r := rand.New(rand.NewSource(seed))
		g := byHand(t, 1+r.Intn(30), grow(r, 500))
		deep = max(deep, g.levels())
		g.tellsAll()
		g.rises()
		g.wanders(cursor.New(g.pool, g.root), r, 60)
	}
	if deep < 17 {
		t.Errorf("no tree of more than %d levels", deep)
	}
}
