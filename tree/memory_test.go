package tree_test

import (
	"bytes"
	"slices"
	"strings"
	"testing"

	"codicil/api"
	"codicil/tree"
)

// roomy are changes whose lists, and the list of them, have other things in the room behind them.
func roomy(l []api.Change) []api.Change {
	var out []api.Change
	for _, c := range l {
		out = append(out, api.Change{Key: withRoom(c.Key, 200, '!'), Value: withRoom(c.Value, 9000, '?'), Delete: c.Delete})
	}
	return withRoom(out, 5, api.Change{Key: []byte("room"), Value: []byte("behind")})
}

// whole is all memory of changes, with the rooms.
func whole(l []api.Change) []api.Change {
	var out []api.Change
	for _, c := range l[:cap(l)] {
		out = append(out, api.Change{Key: bytes.Clone(c.Key[:cap(c.Key)]), Value: bytes.Clone(c.Value[:cap(c.Value)]), Delete: c.Delete})
	}
	return out
}

func someChanges() []api.Change {
	l := []api.Change{put("z", mixed(64, 1)), del(numbered(7)), put("great", mixed(3000, 2)), put("a", ""), put("greater", "small"), put("z", "again"), del("none"), put("new", mixed(8192, 3)), del("new"), put("y", mixed(65, 4))}
	return append(l, puts(140, 170, "v")...)
}

// TestEditNeitherChangesNorKeepsWhatIsHandedIn: nor reads the room behind it.
func TestEditNeitherChangesNorKeepsWhatIsHandedIn(t *testing.T) {
	g, root := withCalls(t)
	l := roomy(someChanges())
	before := whole(l)
	d := g.draft(root, l...)
	if !slices.EqualFunc(whole(l), before, sameChange) {
		t.Error("what was handed in has changed")
	}
	for i := range l {
		spoil(l[i].Key)
		spoil(l[i].Value)
		l[i] = put("other", "other")
	}
	g.stands(g.writes(root, d, g.free(d.Need()), someChanges()))
	g.stands(root)
}

func TestARefusedEditChangesNothing(t *testing.T) {
	g, root := withCalls(t)
	for _, bad := range []api.Change{put("", "1"), put("k", mixed(8193, 5)), del(strings.Repeat("k", 161))} {
		l := roomy(append(someChanges(), bad))
		before := whole(l)
		if _, err := tree.Edit(g.pool, root, l); err == api.OK {
			t.Error("taken")
		}
		if !slices.EqualFunc(whole(l), before, sameChange) {
			t.Error("what was handed in has changed")
		}
	}
	g.stands(root)
}

// TestRoomBehindKeysIsNotRead: a key, or a value, is not longer by it.
func TestRoomBehindKeysIsNotRead(t *testing.T) {
	g := newGround(t, 60, 9)
	long := strings.Repeat("k", 160)
	root := g.edit(0, roomy([]api.Change{put(long, mixed(8192, 6)), put("k", mixed(64, 7)), put("l", "")})...)
	g.stands(root)
	refusesEdit(t, g.pool, root, api.ErrKeyLong, api.Change{Key: withRoom([]byte{}, 5, 'k')})
	key := withRoom([]byte("k"), 159, 'k')
	if got, is, err := tree.Get(g.pool, root, key); string(got) != mixed(64, 7) || !is || err != api.OK {
		t.Errorf("Get: %d bytes, %v, %v", len(got), is, err)
	}
	if string(key[:160]) != long {
		t.Error("what was handed in has changed")
	}
	d := g.draft(root, del("k"))
	at := withRoom(g.free(1), 1, 0)
	if _, err := d.Write(g.pool, at); err != api.OK || at[:2][1] != 0 {
		t.Errorf("Write: %v, and behind at stands %d", err, at[:2][1])
	}
	refusesWrite(t, d, g.pool, api.ErrArg, withRoom([]uint32{}, 1, 59)...)
}

// TestWriteNeitherChangesNorKeepsPages: another Write goes to its own.
func TestWriteNeitherChangesNorKeepsPages(t *testing.T) {
	g, root := withCalls(t)
	d := g.draft(root, someChanges()...)
	at := withRoom(g.free(d.Need()), 9, 7)
	before := slices.Clone(at[:cap(at)])
	refusesWrite(t, d, g.pool, api.ErrArg, at[1:]...)
	if !slices.Equal(at[:cap(at)], before) {
		t.Error("what was handed in has changed")
	}
	to := g.writes(root, d, at, someChanges())
	if !slices.Equal(at[:cap(at)], before) {
		t.Error("what was handed in has changed")
	}
	spoil(at)
	g.stands(to)
	g.writes(root, d, g.free(d.Need()), someChanges())
	g.allStand()
}

// TestWhatComesOutIsNewMemory: of all calls, spoilt in turn with the room behind it, and asked again.
func TestWhatComesOutIsNewMemory(t *testing.T) {
	for _, most := range []int{1, 300} {
		g, root := withCalls(t)
		g.pool = newPool(t, g.disk, most)
		d := g.draft(root, someChanges()...)
		gone := d.Gone()
		for range 3 {
			pages, _, _ := tree.Walk(g.pool, root)
			spoil(pages)
			for _, key := range []string{numbered(0), numbered(149), "great", "greater"} {
				value, _, _ := tree.Get(g.pool, root, []byte(key))
				spoil(value)
			}
			l := d.Gone()
			if !slices.Equal(l, gone) {
				t.Error("Gone tells another thing")
			}
			spoil(l)
			g.stands(root)
		}
		g.stands(g.writes(root, d, g.free(d.Need()), someChanges()))
		g.stands(root)
	}
}

// TestListsThatComeOutShareNothing: two of one call each, of which one is spoilt or added to.
func TestListsThatComeOutShareNothing(t *testing.T) {
	g, root := withCalls(t)
	d := g.draft(root, someChanges()...)
	one, two := d.Gone(), d.Gone()
	want := slices.Clone(two)
	_, _ = append(one, 1), append(two, 2)
	spoil(one)
	if !slices.Equal(two, want) {
		t.Error("two of Gone share memory")
	}
	for _, key := range []string{numbered(5), "great"} {
		a, _, _ := tree.Get(g.pool, root, []byte(key))
		b, _, _ := tree.Get(g.pool, root, []byte(key))
		longer, other := append(a, "one"...), append(b, "two"...)
		if want := g.trees[root].pairs[key]; string(longer) != want+"one" || string(other) != want+"two" {
			t.Error("room behind two values is shared")
		}
		spoil(a)
		if string(b) != g.trees[root].pairs[key] {
			t.Error("two values share memory")
		}
	}
	pages, _, _ := tree.Walk(g.pool, root)
	others, _, _ := tree.Walk(g.pool, root)
	spoil(pages)
	if !slices.Equal(others, g.trees[root].pages) {
		t.Error("two of Walk share memory")
	}
}

// TestWhatWasToldStays: also when its pages are written anew.
func TestWhatWasToldStays(t *testing.T) {
	g, root := withCalls(t)
	x := g.trees[root]
	small, _, _ := tree.Get(g.pool, root, []byte(numbered(0)))
	great, _, _ := tree.Get(g.pool, root, []byte("great"))
	pages, _, _ := tree.Walk(g.pool, root)
	for _, number := range pages {
		g.pool.Write(number, 4, []byte("something else"))
	}
	refusesWalk(t, g.pool, root, api.ErrTreeForm)
	if string(small) != x.pairs[numbered(0)] || string(great) != x.pairs["great"] || !slices.Equal(pages, x.pages) {
		t.Error("what was told has changed")
	}
}

// TestReadingChangesNothingOfTheDisk: neither what lasts nor what waits.
func TestReadingChangesNothingOfTheDisk(t *testing.T) {
	g, root := withCalls(t)
	g.disk.Write(299, make([]byte, 128))
	image, pending := g.disk.Image(), g.disk.Pending()
	for _, c := range calls(g, root) {
		c.do(newPool(t, g.disk, 2))
	}
	refusesWalk(t, g.pool, 299, api.ErrTreeForm)
	if !bytes.Equal(g.disk.Image(), image) || !slices.Equal(g.disk.Pending(), pending) {
		t.Error("the disk has changed")
	}
}
