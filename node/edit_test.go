package node_test

import (
	"fmt"
	"slices"
	"testing"

	"codicil/api"
	"codicil/node"
)

func finds(t *testing.T, n api.Node, key string, want int, is bool) {
	t.Helper()
	if at, found := node.Find(n, []byte(key)); at != want || found != is {
		t.Errorf("Find of %q in %s tells %d and %v, not %d and %v", key, tell(n), at, found, want, is)
	}
}

// found is where a key stands, by the chapter's words.
func found(n api.Node, key string) (int, bool) {
	if n.Leaf {
		for at, e := range n.Entries {
			if string(e.Key) >= key {
				return at, string(e.Key) == key
			}
		}
		return len(n.Entries), false
	}
	last := 0
	for at, e := range n.Entries {
		if string(e.Key) <= key {
			last = at
		}
	}
	return last, len(n.Entries) > 0
}

func TestFindInLeaves(t *testing.T) {
	n := leaf(small("b", "1"), great("d", 9, 100), small("dd", ""), small("f", ""))
	for key, want := range map[string]struct {
		at int
		is bool
	}{
		"": {0, false}, "\x00": {0, false}, "a": {0, false}, "azzz": {0, false}, "b": {0, true}, "b\x00": {1, false}, "c": {1, false}, "d": {1, true}, "d\x00": {2, false},
		"dd": {2, true}, "ddd": {3, false}, "e": {3, false}, "f": {3, true}, "ff": {4, false}, "g": {4, false}, "\xff": {4, false}, long(500): {4, false},
	} {
		finds(t, n, key, want.at, want.is)
	}
	for _, key := range []string{"", "a", long(200)} {
		finds(t, leaf(), key, 0, false)
	}
}

func TestFindInBranches(t *testing.T) {
	n := branch(kid("", 5), kid("b", 6), kid("d", 7), kid("dd", 8))
	for key, want := range map[string]int{"": 0, "\x00": 0, "a": 0, "azz": 0, "b": 1, "b\x00": 1, "c": 1, "czz": 1, "d": 2, "d\x00": 2, "dc": 2, "dd": 3, "dd\x00": 3, "e": 3, "\xff": 3, long(500): 3} {
		finds(t, n, key, want, true)
	}
	for _, key := range []string{"", "a", "\xff"} {
		finds(t, branch(), key, 0, false)
		finds(t, branch(kid("", 5)), key, 0, true)
	}
}

func TestFindInDrawnNodes(t *testing.T) {
	var d drawn = 3
	for range 500 {
		n := d.node(d.below(2) == 0, d.below(40))
		keys := []string{"", "\xff\xff", d.text(d.below(5))}
		for _, e := range n.Entries {
			keys = append(keys, string(e.Key), string(e.Key)+"\x00", string(e.Key[:len(e.Key)/2]))
		}
		for _, key := range keys {
			at, is := found(n, key)
			finds(t, n, key, at, is)
		}
	}
}

// with is n with e, by the chapter's words: in the place of the entry of its key, or where keys still rise.
func with(n api.Node, e api.Entry) api.Node {
	out := api.Node{Leaf: n.Leaf}
	for _, other := range n.Entries {
		if string(other.Key) < string(e.Key) {
			out.Entries = append(out.Entries, other)
		}
	}
	out.Entries = append(out.Entries, e)
	for _, other := range n.Entries {
		if string(other.Key) > string(e.Key) {
			out.Entries = append(out.Entries, other)
		}
	}
	return out
}

// puts looks at Put, and at Find and Drop of what came of it.
func puts(t *testing.T, n api.Node, e api.Entry) {
	t.Helper()
	got := node.Put(n, e)
	isNode(t, "Put", got, with(n, e))
	at, is := node.Find(got, e.Key)
	if !is || !same(leaf(got.Entries[at]), leaf(e)) {
		t.Errorf("Find of the put %q in %s tells %d and %v", e.Key, tell(got), at, is)
	}
	if !has(n, string(e.Key)) {
		drops(t, got, string(e.Key), n, true)
	}
}

func has(n api.Node, key string) bool {
	return slices.ContainsFunc(n.Entries, func(e api.Entry) bool { return string(e.Key) == key })
}

func drops(t *testing.T, n api.Node, key string, want api.Node, is bool) {
	t.Helper()
	got, was := node.Drop(n, []byte(key))
	if was != is {
		t.Errorf("Drop of %q of %s tells %v", key, tell(n), was)
	}
	isNode(t, "Drop", got, want)
}

func TestPutIntoNoEntries(t *testing.T) {
	for _, e := range []api.Entry{small("a", "1"), small("a", ""), great("a", 9, 100), small("", "1"), small(long(300), long(300))} {
		puts(t, leaf(), e)
		isNode(t, "Put into no entries", node.Put(leaf(), e), leaf(e))
	}
	puts(t, branch(), kid("", 5))
	isNode(t, "Put into no entries", node.Put(branch(), kid("", 5)), branch(kid("", 5)))
}

func TestPutAtEachPlace(t *testing.T) {
	b, d, f := small("b", "1"), great("d", 9, 100), small("f", "3")
	for key, want := range map[string][]string{"a": {"a", "b", "d", "f"}, "c": {"b", "c", "d", "f"}, "e": {"b", "d", "e", "f"}, "g": {"b", "d", "f", "g"}, "b\x00": {"b", "b\x00", "d", "f"}} {
		for _, e := range []api.Entry{small(key, "new"), great(key, 10, 200)} {
			puts(t, leaf(b, d, f), e)
			sameKeys(t, node.Put(leaf(b, d, f), e), want)
		}
	}
	for key, want := range map[string][]string{"a": {"", "a", "b", "d"}, "c": {"", "b", "c", "d"}, "e": {"", "b", "d", "e"}} {
		n := branch(kid("", 5), kid("b", 6), kid("d", 7))
		puts(t, n, kid(key, 8))
		sameKeys(t, node.Put(n, kid(key, 8)), want)
	}
}

func sameKeys(t *testing.T, n api.Node, want []string) {
	t.Helper()
	var got []string
	for _, e := range n.Entries {
		got = append(got, string(e.Key))
	}
	if !slices.Equal(got, want) {
		t.Errorf("keys %q, not %q", got, want)
	}
}

func TestPutOfKeysThatAreThere(t *testing.T) {
	n := leaf(small("b", "1"), great("d", 9, 100), small("f", "3"))
	for at, key := range []string{"b", "d", "f"} {
		for _, e := range []api.Entry{small(key, "new"), small(key, ""), great(key, 10, 200)} {
			want := leaf(slices.Clone(n.Entries)...)
			want.Entries[at] = e
			puts(t, n, e)
			isNode(t, "Put of one that is there", node.Put(n, e), want)
		}
	}
	kids := branch(kid("", 5), kid("b", 6), kid("d", 7))
	for at, key := range []string{"", "b", "d"} {
		want := branch(slices.Clone(kids.Entries)...)
		want.Entries[at].Page = 99
		puts(t, kids, kid(key, 99))
		isNode(t, "Put of one that is there", node.Put(kids, kid(key, 99)), want)
	}
}

// TestPutKeepsEntriesAsTheyAre holds that Put looks at keys alone.
func TestPutKeepsEntriesAsTheyAre(t *testing.T) {
	odd := api.Entry{Key: []byte("c"), Value: []byte(long(100)), Page: 1, Size: 1 << 31}
	puts(t, leaf(small("a", long(500))), odd)
	puts(t, branch(kid("", 0), kid("m", 0)), odd)
	puts(t, node.Put(leaf(small("a", ""), small("z", "")), odd), small("b", ""))
}

func TestDropOfEachKey(t *testing.T) {
	a, b, c := small("a", "1"), great("b", 9, 100), small("c", "3")
	drops(t, leaf(a, b, c), "a", leaf(b, c), true)
	drops(t, leaf(a, b, c), "b", leaf(a, c), true)
	drops(t, leaf(a, b, c), "c", leaf(a, b), true)
	drops(t, leaf(a), "a", leaf(), true)
	x, y, z := kid("", 5), kid("m", 6), kid("n", 7)
	drops(t, branch(x, y, z), "m", branch(x, z), true)
	drops(t, branch(x, y, z), "n", branch(x, y), true)
	drops(t, branch(x, y, z), "", branch(y, z), true)
	drops(t, branch(x), "", branch(), true)
}

func TestDropOfKeysThatAreNotThere(t *testing.T) {
	n := leaf(small("b", "1"), great("d", 9, 100), small("f", "3"))
	for _, key := range []string{"", "a", "b\x00", "c", "e", "ff", "g", long(500)} {
		drops(t, n, key, n, false)
		drops(t, leaf(), key, leaf(), false)
		drops(t, branch(), key, branch(), false)
	}
	kids := branch(kid("", 5), kid("m", 6), kid("p", 7))
	for _, key := range []string{"a", "mm", "n", "z"} {
		drops(t, kids, key, kids, false)
	}
}

// TestPutAndDropOfDrawnNodes goes on with one node, of which it holds a plain list.
func TestPutAndDropOfDrawnNodes(t *testing.T) {
	for _, isLeaf := range []bool{true, false} {
		var d drawn = 4
		n, want := api.Node{Leaf: isLeaf}, map[string]api.Entry{}
		if !isLeaf {
			n, want[""] = node.Put(n, kid("", 5)), kid("", 5)
		}
		for range 3000 {
			key := fmt.Sprint(d.below(200))
			e := d.entry(isLeaf)
			e.Key = []byte(key)
			_, there := want[key]
			if d.below(2) == 0 {
				n, want[key] = node.Put(n, e), e
			} else {
				var was bool
				n, was = node.Drop(n, e.Key)
				delete(want, key)
				if was != there {
					t.Fatalf("Drop of %q tells %v", key, was)
				}
			}
			isNode(t, "behind all that was done", n, listed(isLeaf, want))
		}
	}
}

func listed(isLeaf bool, by map[string]api.Entry) api.Node {
	var keys []string
	for key := range by {
		keys = append(keys, key)
	}
	slices.Sort(keys)
	n := api.Node{Leaf: isLeaf}
	for _, key := range keys {
		n.Entries = append(n.Entries, by[key])
	}
	return n
}

func TestPutIntoDrawnNodes(t *testing.T) {
	var d drawn = 5
	for range 1000 {
		n := d.node(d.below(2) == 0, 1+d.below(30))
		puts(t, n, d.entry(n.Leaf))
		e := d.entry(n.Leaf)
		e.Key = n.Entries[d.below(len(n.Entries))].Key
		puts(t, n, e)
	}
}
