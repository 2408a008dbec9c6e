package node_test

import (
	"fmt"
	"testing"

	"codicil/api"
	"codicil/node"
)

// halves looks at Halves, and at the Join of what came of it.
func halves(t *testing.T, n, a, b api.Node, key string) {
	t.Helper()
	x, y, between := node.Halves(n)
	isNode(t, "the first half", x, a)
	isNode(t, "the second half", y, b)
	if string(between) != key {
		t.Errorf("the key between is %q, not %q", between, key)
	}
	isNode(t, "Join of Halves", node.Join(x, y, between), n)
}

// parted are the halves by the chapter's words: each number of entries is tried, from one on.
func parted(n api.Node) (api.Node, api.Node, string) {
	if len(n.Entries) < 2 {
		return n, api.Node{Leaf: n.Leaf}, ""
	}
	count := 1
	for count < len(n.Entries)-1 && 2*bytesOf(n, count) < bytesOf(n, len(n.Entries)) {
		count++
	}
	a, b := api.Node{Leaf: n.Leaf, Entries: n.Entries[:count]}, api.Node{Leaf: n.Leaf}
	b.Entries = append(b.Entries, n.Entries[count:]...)
	key := string(b.Entries[0].Key)
	if !n.Leaf {
		b.Entries[0].Key = nil
	}
	return a, b, key
}

// bytesOf is how many bytes the first entries have.
func bytesOf(n api.Node, count int) int {
	return len(laid(api.Node{Leaf: n.Leaf, Entries: n.Entries[:count]})) - 2
}

func TestHalvesOfFew(t *testing.T) {
	halves(t, leaf(), leaf(), leaf(), "")
	halves(t, branch(), branch(), branch(), "")
	for _, e := range []api.Entry{small("a", "1"), great("a", 9, 100), small(long(160), long(64))} {
		halves(t, leaf(e), leaf(e), leaf(), "")
	}
	halves(t, branch(kid("", 5)), branch(kid("", 5)), branch(), "")
}

func TestHalvesOfTwo(t *testing.T) {
	short, wide := small("a", ""), small("b", long(64))
	halves(t, leaf(short, wide), leaf(short), leaf(wide), "b")
	short.Key, wide.Key = wide.Key, short.Key
	halves(t, leaf(wide, short), leaf(wide), leaf(short), "b")
	halves(t, leaf(small("a", "1"), small("b", "1")), leaf(small("a", "1")), leaf(small("b", "1")), "b")
	halves(t, branch(kid("", 5), kid("m", 6)), branch(kid("", 5)), branch(kid("", 6)), "m")
	halves(t, branch(kid("", 5), kid(long(160), 6)), branch(kid("", 5)), branch(kid("", 6)), long(160))
}

func TestHalvesOfThreeAndFour(t *testing.T) {
	a, b, c, d := small("a", "1"), small("b", "1"), small("c", "1"), small("d", "1")
	halves(t, leaf(a, b, c), leaf(a, b), leaf(c), "c")
	halves(t, leaf(a, b, c, d), leaf(a, b), leaf(c, d), "c")
	w, x, y, z := kid("", 5), kid("a", 6), kid("b", 7), kid("c", 8)
	halves(t, branch(w, x, y), branch(w, x), branch(kid("", 7)), "b")
	halves(t, branch(w, x, y, z), branch(w, x, y), branch(kid("", 8)), "c")
}

// TestHalvesAtTheHalf goes with one value's length over the half, T even and odd.
func TestHalvesAtTheHalf(t *testing.T) {
	at := func(first, second, third int) (api.Node, []api.Entry) {
		l := []api.Entry{small("a", long(first)), small("b", long(second)), small("c", long(third))}
		return leaf(l...), l
	}
	for _, c := range []struct{ first, second, third, count int }{
		{13, 5, 5, 1}, // 16 of 32: just the half
		{12, 5, 5, 2}, // 15 of 31: half of one byte less
		{11, 5, 5, 2},
		{13, 5, 6, 2}, // 16 of 33: rounded upwards it is not the half
		{14, 5, 6, 1},
		{13, 4, 5, 1}, // 16 of 31: rounded upwards it is just the half
		{0, 0, 64, 2}, // never all, however long the last one is
		{64, 0, 0, 1},
		{0, 64, 0, 2},
	} {
		n, l := at(c.first, c.second, c.third)
		halves(t, n, leaf(l[:c.count]...), leaf(l[c.count:]...), string(l[c.count].Key))
	}
}

// TestHalvesOfGreatValues holds that a great value counts with the eight bytes of its place, not with its own.
func TestHalvesOfGreatValues(t *testing.T) {
	a, b, c := great("a", 9, 8192), small("b", long(9)), small("c", "")
	halves(t, leaf(a, b, c), leaf(a, b), leaf(c), "c")
	b.Value = b.Value[:5]
	halves(t, leaf(a, b, c), leaf(a), leaf(b, c), "b")
}

func TestHalvesOfDrawnNodes(t *testing.T) {
	var d drawn = 6
	for range 4000 {
		n := d.node(d.below(2) == 0, d.below(25))
		a, b, key := parted(n)
		halves(t, n, a, b, key)
	}
}

func TestHalvesOfLongNodes(t *testing.T) {
	for _, isLeaf := range []bool{true, false} {
		var d drawn = 7
		n := d.node(isLeaf, 400)
		for at := range n.Entries {
			n.Entries[at].Key = append([]byte(long(min(at, 1)*400)), n.Entries[at].Key...)
		}
		a, b, key := parted(n)
		halves(t, n, a, b, key)
	}
}

func TestJoinOfLeaves(t *testing.T) {
	a, b, c, d := small("a", "1"), great("b", 9, 100), small("c", ""), small("d", "4")
	for _, key := range []string{"", "c", "other", long(300)} {
		for _, l := range [][]api.Entry{{a, b, c, d}, {a, b}, {a}, nil} {
			for at := range len(l) + 1 {
				isNode(t, fmt.Sprint("Join at ", at), node.Join(leaf(l[:at]...), leaf(l[at:]...), []byte(key)), leaf(l...))
			}
		}
	}
}

func TestJoinOfBranches(t *testing.T) {
	w, x, y, z := kid("", 5), kid("", 6), kid("b", 7), kid("c", 8)
	for _, key := range []string{"a", "\x00", long(160), long(300), ""} {
		isNode(t, "one and one", node.Join(branch(w), branch(x), []byte(key)), branch(w, kid(key, 6)))
		isNode(t, "one and three", node.Join(branch(w), branch(x, y, z), []byte(key)), branch(w, kid(key, 6), y, z))
		isNode(t, "two and one", node.Join(branch(w, kid("0", 9)), branch(x), []byte(key)), branch(w, kid("0", 9), kid(key, 6)))
		isNode(t, "none behind", node.Join(branch(w, y), branch(), []byte(key)), branch(w, y))
		isNode(t, "none ahead", node.Join(branch(), branch(x, y), []byte(key)), branch(kid(key, 6), y))
		isNode(t, "none", node.Join(branch(), branch(), []byte(key)), branch())
	}
}

// TestJoinKeepsEntriesAsTheyAre holds that Join looks at nothing but whether its nodes are leaves.
func TestJoinKeepsEntriesAsTheyAre(t *testing.T) {
	odd := api.Entry{Key: []byte("c"), Value: []byte(long(100)), Page: 1, Size: 1 << 31}
	keyed := odd
	keyed.Key = []byte("k")
	isNode(t, "leaves", node.Join(leaf(odd), leaf(odd), []byte("k")), leaf(odd, odd))
	isNode(t, "branches", node.Join(branch(odd), branch(odd), []byte("k")), branch(odd, keyed))
}

// bothMayBe looks at the halves of a node that one entry has made too long.
func bothMayBe(t *testing.T, n api.Node) {
	t.Helper()
	if err := node.Check(n); err != api.ErrNodeLong {
		t.Fatalf("%s is told as %v", tell(n), err)
	}
	a, b, _ := node.Halves(n)
	if node.Check(a) != api.OK || node.Check(b) != api.OK {
		t.Errorf("halves of %s are told as %v and %v", tell(n), node.Check(a), node.Check(b))
	}
}

func TestHalvesOfOneEntryTooLong(t *testing.T) {
	var d drawn = 8
	seen := 0
	for seen < 3000 {
		n := api.Node{Leaf: seen%2 == 0}
		if !n.Leaf {
			n = node.Put(n, kid("", 2))
		}
		for page := uint32(3); node.Size(n) <= 1008; page++ {
			e := d.entry(n.Leaf)
			if !n.Leaf {
				e.Page = page
			}
			n = node.Put(n, e)
		}
		bothMayBe(t, n)
		seen++
	}
}

// TestHalvesOfUnlikeEntries lays the widest entry among the shortest, and the shortest among the widest, at each place.
func TestHalvesOfUnlikeEntries(t *testing.T) {
	for _, c := range []struct {
		many, one api.Entry
		page      uint32
	}{
		{small("", ""), small(long(158), long(64)), 0},
		{small(long(158), long(64)), small("", ""), 0},
		{great("", 9, 65), small(long(158), long(64)), 0},
		{kid("", 0), kid(long(158), 0), 2},
		{kid(long(158), 0), kid("", 0), 2},
	} {
		for place := range 400 {
			n := api.Node{Leaf: c.page == 0}
			for at := 0; node.Size(n) <= 1008; at++ {
				e := c.many
				if at == place {
					e = c.one
				}
				e.Key = append([]byte{byte(1 + at/255), byte(1 + at%255)}, e.Key...)
				e.Page += c.page * uint32(at+1)
				if at == 0 && !n.Leaf {
					e.Key = nil
				}
				n.Entries = append(n.Entries, e)
			}
			bothMayBe(t, n)
		}
	}
}
