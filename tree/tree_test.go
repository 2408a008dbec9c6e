package tree_test

import (
	"fmt"
	"slices"
	"strings"
	"testing"

	"codicil/api"
	"codicil/node"
	"codicil/over"
	"codicil/page"
	"codicil/tree"
)

func TestErrorsHaveTheirNumbers(t *testing.T) {
	for err, number := range map[api.Errno]uint16{api.ErrArg: 1, api.ErrRange: 2, api.ErrDark: 4, api.ErrIO: 6, api.ErrKeyLong: 42, api.ErrDocLong: 51, api.ErrTreeForm: 130} {
		if uint16(err) != number {
			t.Errorf("%v is not %d", err, number)
		}
	}
}

// first is the tree of the first example, on page 5.
func first(t *testing.T) *ground {
	t.Helper()
	g := newGround(t, 50, 5)
	d := g.draft(0, put("a", "1"), put("b", "2"))
	if d.Need() != 1 || len(d.Gone()) != 0 || d.More() != 2 {
		t.Fatalf("Need %d, Gone %d, More %d", d.Need(), d.Gone(), d.More())
	}
	root, err := d.Write(g.pool, []uint32{5})
	if root != 5 || err != api.OK {
		t.Fatalf("Write: %d, %v", root, err)
	}
	g.written(0, 5, d, []uint32{5}, []api.Change{put("a", "1"), put("b", "2")})
	return g
}

func TestFirstExample(t *testing.T) {
	g := first(t)
	g.tells(5, "a", "1", true)
	g.tells(5, "b", "2", true)
	g.tells(5, "c", "", false)
	pages, keys, err := tree.Walk(g.pool, 5)
	if !slices.Equal(pages, []uint32{5}) || keys != 2 || err != api.OK {
		t.Errorf("Walk(5): %d, %d keys, %v", pages, keys, err)
	}
}

func TestSecondExample(t *testing.T) {
	g := first(t)
	d := g.draft(5, del("a"), del("b"))
	if d.Need() != 0 || !slices.Equal(d.Gone(), []uint32{5}) || d.More() != -2 {
		t.Errorf("all is taken away: Need %d, Gone %d, More %d", d.Need(), d.Gone(), d.More())
	}
	if root, err := d.Write(g.pool, nil); root != 0 || err != api.OK {
		t.Errorf("Write(nothing): %d, %v", root, err)
	}
	d = g.draft(5, put("c", mixed(3000, 1)))
	if d.Need() != 4 || !slices.Equal(d.Gone(), []uint32{5}) || d.More() != 1 {
		t.Errorf("a great value: Need %d, Gone %d, More %d", d.Need(), d.Gone(), d.More())
	}
	g.stands(5)
}

func TestThirdExample(t *testing.T) {
	g := first(t)
	d := g.draft(5, del("z"))
	if d.Need() != 0 || len(d.Gone()) != 0 || d.More() != 0 {
		t.Errorf("nothing is taken away: Need %d, Gone %d, More %d", d.Need(), d.Gone(), d.More())
	}
	if root, err := d.Write(g.pool, nil); root != 5 || err != api.OK {
		t.Errorf("Write(nothing): %d, %v", root, err)
	}
	refusesEdit(t, g.pool, 0, api.ErrKeyLong, put("", "1"))
}

// TestOnTheDisk: the first example's page is a leaf as layer 9 writes it, sealed as layer 8 does.
func TestOnTheDisk(t *testing.T) {
	g := first(t)
	kind, payload, err := g.pool.Read(5)
	if want := "\x02\x00\x01a\x011\x01b\x012"; kind != page.Leaf || string(payload) != want || err != api.OK {
		t.Errorf("page 5: kind %d, %q, %v", kind, payload, err)
	}
	root := g.edit(5, put("c", mixed(70, 2)))
	kind, payload, _ = g.pool.Read(root)
	n, err := node.Decode(kind, payload)
	if err != api.OK || len(n.Entries) != 3 || n.Entries[2].Size != 70 {
		t.Fatalf("page %d: %v, %v", root, n, err)
	}
	value, pages, err := over.Read(g.pool, n.Entries[2].Page, 70)
	if string(value) != mixed(70, 2) || len(pages) != 1 || err != api.OK {
		t.Errorf("the great value: %d bytes, %d, %v", len(value), pages, err)
	}
}

func TestTheEmptyTree(t *testing.T) {
	g := newGround(t, 9, 3)
	g.costs("all of the root 0", 0, 0, func() {
		g.tells(0, "a", "", false)
		g.tells(0, "", "", false)
		g.walks(0, plain{})
		for _, l := range [][]api.Change{nil, {}, {del("a")}, {del("b"), del("a"), del("b")}, {put("a", "1"), del("a")}} {
			d := g.draft(0, l...)
			if root, err := d.Write(g.pool, nil); d.Need() != 0 || len(d.Gone()) != 0 || root != 0 || err != api.OK {
				t.Errorf("%d changes: Need %d, Gone %d, root %d, %v", len(l), d.Need(), d.Gone(), root, err)
			}
		}
	})
}

func TestEditRefusesKeys(t *testing.T) {
	g := first(t)
	long := strings.Repeat("k", 161)
	g.disk.Trip(0)
	g.costs("what is refused", 0, 0, func() {
		for _, root := range []uint32{0, 5, 7, 99, greatest} {
			for _, key := range []string{"", long, long + long, strings.Repeat("\x00", 1000)} {
				for _, l := range [][]api.Change{
					{put(key, "1")}, {del(key)}, {put("a", "2"), put(key, "1")}, {put(key, "1"), put("a", "2")}, {put("a", "2"), del(key), del("b")},
					{put(key, mixed(8193, 3))}, {put("a", mixed(8193, 3)), put(key, "")}, {put("a", mixed(8193, 3)), del(key)}, {put(key, ""), put("a", mixed(8193, 3))},
				} {
					refusesEdit(t, g.pool, root, api.ErrKeyLong, l...)
				}
			}
		}
	})
	if g.disk.Dark() {
		t.Error("a refused Edit has used up the trip")
	}
}

func TestEditRefusesValues(t *testing.T) {
	g := first(t)
	g.disk.Trip(0)
	g.costs("what is refused", 0, 0, func() {
		for _, root := range []uint32{0, 5, 7, 99, greatest} {
			for _, size := range []int{8193, 8194, 65536 + 64, 1 << 20} {
				great := mixed(size, 4)
				for _, l := range [][]api.Change{
					{put("a", great)}, {put("z", great)}, {put("a", "2"), put("a", great)}, {put("a", great), put("a", "2")},
					{put("a", great), del("a")}, {del("b"), put("c", "1"), put("d", great), del("e")},
				} {
					refusesEdit(t, g.pool, root, api.ErrDocLong, l...)
				}
			}
		}
	})
	if g.disk.Dark() {
		t.Error("a refused Edit has used up the trip")
	}
}

// TestADeletesValueIsNotAsked: of what size it may be.
func TestADeletesValueIsNotAsked(t *testing.T) {
	g := first(t)
	for _, size := range []int{1, 64, 65, 8192, 8193, 100000} {
		d := g.draft(5, api.Change{Key: []byte("a"), Value: []byte(mixed(size, 5)), Delete: true})
		if d.Need() != 1 || d.More() != -1 {
			t.Errorf("a value of %d bytes: Need %d, More %d", size, d.Need(), d.More())
		}
		g.edit(5, api.Change{Key: []byte("a"), Value: []byte(mixed(size, 5)), Delete: true})
		g.edit(5, api.Change{Key: []byte("z"), Value: []byte(mixed(size, 5)), Delete: true})
	}
	refusesEdit(t, g.pool, 5, api.ErrKeyLong, api.Change{Value: []byte(mixed(8193, 5)), Delete: true})
}

func TestKeysOfAllLengths(t *testing.T) {
	g := newGround(t, 900, 50)
	root := uint32(0)
	for length := 1; length <= 160; length++ {
		root = g.follow(root, put(strings.Repeat("k", length), fmt.Sprint(length)))
	}
	for length := 1; length <= 160; length += 53 {
		root = g.follow(root, put(strings.Repeat("\x00", length), ""), put(strings.Repeat("\xff", length), "x"))
	}
	g.stands(root)
	refusesEdit(t, g.pool, root, api.ErrKeyLong, put(strings.Repeat("k", 161), ""))
	for length := 160; length > 0; length-- {
		root = g.follow(root, del(strings.Repeat("k", length)))
	}
	g.stands(root)
}

func TestValuesOfAllSizes(t *testing.T) {
	for _, size := range []int{0, 1, 63, 64, 65, 66, 1003, 1004, 1005, 2008, 2009, 8191, 8192} {
		g := newGround(t, 60, 5)
		d := g.draft(0, put("k", mixed(size, 6)))
		if want := 1 + over.Need(size); d.Need() != want {
			t.Errorf("a value of %d bytes: Need %d, not %d", size, d.Need(), want)
		}
		root := g.edit(0, put("k", mixed(size, 6)))
		g.stands(root)
		d = g.draft(root, del("k"))
		if d.Need() != 0 || !slices.Equal(d.Gone(), g.trees[root].pages) {
			t.Errorf("a value of %d bytes is taken away: Need %d, Gone %d", size, d.Need(), d.Gone())
		}
		g.edit(root, del("k"))
	}
}

// TestGreatValuesAreWrittenOver: by small ones, by great ones, and by deletes; one beside them keeps its pages.
func TestGreatValuesAreWrittenOver(t *testing.T) {
	sizes := []int{0, 64, 65, 1004, 1005, 3000, 8192}
	for _, from := range sizes {
		for _, to := range sizes {
			g := newGround(t, 80, 5)
			root := g.edit(0, put("a", mixed(from, 7)), put("b", mixed(2500, 8)))
			d := g.draft(root, put("a", mixed(to, 9)))
			if d.Need() != 1+over.Need(to) || len(d.Gone()) != 1+over.Need(from) || d.More() != 0 {
				t.Errorf("from %d bytes to %d: Need %d, Gone %d, More %d", from, to, d.Need(), d.Gone(), d.More())
			}
			next := g.edit(root, put("a", mixed(to, 9)))
			last := g.edit(next, del("a"))
			if l := g.trees[last].pages; len(l) != 1+3 {
				t.Errorf("behind a delete the pages are %d", l)
			}
			g.allStand()
		}
	}
}

func TestAPutOfWhatIsThere(t *testing.T) {
	g := first(t)
	root := g.edit(5, put("a", "1"))
	g.stands(root)
	if root == 5 {
		t.Error("a put has the old root")
	}
	great := g.edit(root, put("a", mixed(5000, 10)))
	g.edit(great, put("a", mixed(5000, 10)))
	g.allStand()
}

func TestGetAsksNothingOfKeys(t *testing.T) {
	g := newGround(t, 400, 9)
	var l []api.Change
	for i := range 200 {
		l = append(l, put(fmt.Sprintf("key-%03d", i), fmt.Sprint(i)))
	}
	root := g.edit(0, l...)
	for _, key := range []string{"", "\x00", "a", "key", "key-", "key-0", "key-000\x00", "key-1995", "z", "\xff", strings.Repeat("\xff", 160), strings.Repeat("k", 161), strings.Repeat("\xff", 10000)} {
		g.tells(root, key, "", false)
	}
	for i := range 200 {
		g.tells(root, fmt.Sprintf("key-%03d", i), fmt.Sprint(i), true)
	}
}
