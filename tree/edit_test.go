package tree_test

import (
	"fmt"
	"maps"
	"math/rand"
	"slices"
	"strings"
	"testing"

	"codicil/api"
	"codicil/tree"
)

// numbered are keys that rise with their numbers.
func numbered(i int) string { return fmt.Sprintf("key-%04d", i) }

func puts(from, to int, value string) []api.Change {
	var out []api.Change
	for i := from; i < to; i++ {
		out = append(out, put(numbered(i), value))
	}
	return out
}

func dels(from, to int) []api.Change {
	var out []api.Change
	for i := from; i < to; i++ {
		out = append(out, del(numbered(i)))
	}
	return out
}

// TestWhatOneLeafHolds: 1008 bytes stand on one page, one byte more takes two leaves and a branch; and one byte fewer is one leaf again.
func TestWhatOneLeafHolds(t *testing.T) {
	g := newGround(t, 60, 9)
	l := puts(0, 100, "")
	l = append(l, put("k", "123"))
	if d := g.draft(0, l...); d.Need() != 1 {
		t.Errorf("1008 bytes: Need %d", d.Need())
	}
	full := g.edit(0, l...)
	if x := g.trees[full]; x.leaves != 1 || x.levels != 1 {
		t.Errorf("%d leaves on %d levels", x.leaves, x.levels)
	}
	for _, c := range []api.Change{put("k", "1234"), put("k", mixed(64, 1)), put("z", ""), put("a", "1"), put(numbered(50), "x"), put("kk", mixed(9, 1)), put(strings.Repeat("z", 160), mixed(64, 1))} {
		if d := g.draft(full, c); d.Need() != 3 || !slices.Equal(d.Gone(), []uint32{full}) {
			t.Errorf("%q and %d bytes: Need %d, Gone %d", c.Key, len(c.Value), d.Need(), d.Gone())
		}
		root := g.edit(full, c)
		if x := g.trees[root]; x.leaves != 2 || x.branches != 1 {
			t.Errorf("%q and %d bytes: %d leaves, %d branches", c.Key, len(c.Value), x.leaves, x.branches)
		}
		g.stands(root)
		g.drop(root)
	}
	for _, c := range []api.Change{put("k", "12"), put("k", "abc"), del("k"), del(numbered(0)), del(numbered(99))} {
		if d := g.draft(full, c); d.Need() != 1 {
			t.Errorf("%q and %d bytes: Need %d", c.Key, len(c.Value), d.Need())
		}
		g.drop(g.edit(full, c))
	}
	g.stands(full)
}

// TestTreesOfAllSizes: of so many keys, that came in one list and change by change; with each a put of a new key, of one that is there, a delete of one that is there and of one that is not.
func TestTreesOfAllSizes(t *testing.T) {
	value := mixed(20, 2)
	slow := newGround(t, 2500, 40)
	root := uint32(0)
	for count := range 300 {
		if count%7 == 0 || count < 40 {
			g := newGround(t, 700, 40)
			at := g.edit(0, puts(0, count, value)...)
			if !maps.Equal(g.trees[at].pairs, slow.trees[root].pairs) {
				t.Fatalf("of %d keys two trees are not alike", count)
			}
			for _, c := range []api.Change{put("a", "1"), put(numbered(count/2), "2"), put("z", "3"), del(numbered(count / 2)), del(numbered(0)), del(numbered(count - 1)), del("a"), del(numbered(count))} {
				g.drop(g.edit(at, c))
				slow.drop(slow.edit(root, c))
				g.trees[at], slow.trees[root] = g.again(at), slow.again(root)
			}
			g.drop(g.edit(at, dels(0, count)...))
			g.trees[at] = g.again(at)
			g.stands(at)
		}
		root = slow.follow(root, put(numbered(count), value))
	}
	slow.stands(root)
	for count := range 300 {
		root = slow.follow(root, del(numbered((count*7)%300)))
	}
	if root != 0 {
		t.Errorf("root %d of no keys", root)
	}
}

// again is a tree as it stands: a change that was none may have had it as its own, too.
func (g *ground) again(root uint32) plain {
	g.Helper()
	x, right := plainWalk(g.pool, root)
	if !right {
		g.Fatalf("%d is no right tree", root)
	}
	return x
}

func TestTreesOfTwoAndThreeLevels(t *testing.T) {
	long := func(i int) string { return fmt.Sprintf("%04d", i) + strings.Repeat("k", 156) }
	for _, at := range []struct{ keys, levels int }{{1, 1}, {4, 1}, {5, 2}, {15, 2}, {60, 3}, {200, 4}, {600, 5}} {
		g := newGround(t, 1500, 30)
		var l []api.Change
		for i := range at.keys {
			l = append(l, put(long(i), mixed(64, uint32(i))))
		}
		root := g.edit(0, l...)
		if got := g.trees[root].levels; got < at.levels-1 || got > at.levels+1 || at.levels < 3 && got != at.levels {
			t.Errorf("%d keys: %d levels", at.keys, got)
		}
		for i := 0; i < at.keys; i += 1 + at.keys/20 {
			g.drop(g.edit(root, del(long(i))))
			g.drop(g.edit(root, put(long(i), "")))
			g.drop(g.edit(root, put(long(i)[:100], mixed(64, 1))))
			g.drop(g.edit(root, put(long(i)[:159]+"z", mixed(200, 1))))
			g.drop(g.edit(root, del(long(i)), put(long(i), mixed(100, 3)), del(long(i)[:9])))
		}
		g.stands(root)
	}
}

// TestOneKeySeveralTimes: what comes last counts, whatever came ahead of it.
func TestOneKeySeveralTimes(t *testing.T) {
	g := newGround(t, 400, 9)
	great, greater := mixed(2500, 3), mixed(8192, 4)
	for _, base := range [][]api.Change{nil, {put("k", "old")}, {put("k", great)}, append(puts(0, 120, "v"), put("k", great))} {
		root := g.edit(0, base...)
		_, there := g.trees[root].pairs["k"]
		steps := []api.Change{put("k", "1"), put("k", great), put("k", greater), del("k")}
		for _, a := range steps {
			for _, b := range steps {
				for _, c := range append(steps, put("j", "x"), del("j")) {
					l := []api.Change{a, b, c}
					g.sameAsTheLast(root, l, there)
				}
			}
		}
		g.stands(root)
	}
}

// sameAsTheLast holds a list against the changes alone that come last of their keys: the same is needed, and the same is gone.
func (g *ground) sameAsTheLast(root uint32, l []api.Change, there bool) {
	g.Helper()
	short := l[1:]
	if string(l[2].Key) == "k" {
		short = l[2:]
	}
	long, few := g.draft(root, l...), g.draft(root, short...)
	if long.Need() != few.Need() || !slices.Equal(long.Gone(), few.Gone()) || long.More() != few.More() {
		g.Errorf("Need %d, Gone %d, More %d; of the last ones alone %d, %d, %d", long.Need(), long.Gone(), long.More(), few.Need(), few.Gone(), few.More())
	}
	if l[2].Delete && (string(l[2].Key) == "k" || l[1].Delete) && !there && (long.Need() != 0 || len(long.Gone()) != 0) {
		g.Errorf("a key that is not there is put and taken away: Need %d, Gone %d", long.Need(), long.Gone())
	}
	to := g.edit(root, l...)
	g.stands(to)
	if to != root {
		g.drop(to)
	}
}

// TestNothingChanges: the old root, no page needed and none gone.
func TestNothingChanges(t *testing.T) {
	g := newGround(t, 600, 9)
	for _, base := range [][]api.Change{{put("k", "1")}, {put("k", mixed(3000, 5))}, puts(0, 80, "v"), puts(0, 300, mixed(40, 6))} {
		root := g.edit(0, base...)
		for _, l := range [][]api.Change{
			nil, {}, {del("a")}, {del("z")}, {del("k\x00")}, {del("j"), del("j")}, {del("key-00005"), del("key-0299x"), del("key-"), del(strings.Repeat("k", 160))},
			{put("a", "1"), del("a")}, {put("a", mixed(3000, 7)), put("b", "1"), del("b"), del("a")},
		} {
			d := g.draft(root, l...)
			if d.Need() != 0 || len(d.Gone()) != 0 || d.More() != 0 {
				t.Errorf("Need %d, Gone %d, More %d", d.Need(), d.Gone(), d.More())
			}
			g.costs("a Write of nothing", 0, 0, func() {
				if to, err := d.Write(g.pool, nil); to != root || err != api.OK {
					t.Errorf("Write: %d, %v, not the old root %d", to, err, root)
				}
			})
			refusesWrite(t, d, g.pool, api.ErrArg, 599)
		}
		g.stands(root)
	}
}

// TestNoKeyIsLeft: the root is 0, and all pages are gone.
func TestNoKeyIsLeft(t *testing.T) {
	for _, count := range []int{1, 2, 50, 70, 400} {
		g := newGround(t, 1200, 9)
		root := g.edit(0, append(puts(0, count, mixed(30, 8)), put("great", mixed(8192, 9)))...)
		l := append(dels(0, count), del("great"))
		r := rand.New(rand.NewSource(int64(count)))
		for range 3 {
			d := g.draft(root, l...)
			if d.Need() != 0 || d.More() != -count-1 || !slices.Equal(d.Gone(), g.trees[root].pages) {
				t.Errorf("%d keys: Need %d, More %d, Gone %d of %d", count, d.Need(), d.More(), len(d.Gone()), len(g.trees[root].pages))
			}
			if to, err := d.Write(g.pool, nil); to != 0 || err != api.OK {
				t.Errorf("Write: %d, %v", to, err)
			}
			r.Shuffle(len(l), func(i, j int) { l[i], l[j] = l[j], l[i] })
		}
		g.stands(root)
	}
}

// TestListsAndSingleChanges: one list and its changes one by one have the same keys and values.
func TestListsAndSingleChanges(t *testing.T) {
	r := rand.New(rand.NewSource(10))
	for range 12 {
		g := newGround(t, 2500, 60)
		root := g.edit(0, puts(0, r.Intn(300), mixed(r.Intn(64), 11))...)
		var l []api.Change
		for range 1 + r.Intn(150) {
			l = append(l, anyChange(r, numbered(r.Intn(320))))
		}
		all := g.edit(root, l...)
		one := root
		for _, c := range l {
			next := g.edit(one, c)
			if one != root && next != one {
				g.drop(one)
			}
			one = next
		}
		if !maps.Equal(g.trees[all].pairs, g.trees[one].pairs) {
			t.Error("a list and its changes one by one are not alike")
		}
		g.allStand()
	}
}

// anyChange draws what becomes of a key.
func anyChange(r *rand.Rand, key string) api.Change {
	switch r.Intn(10) {
	case 0, 1, 2, 3:
		return del(key)
	case 4:
		return put(key, mixed(65+r.Intn(3000), r.Uint32()))
	default:
		return put(key, mixed(r.Intn(65), r.Uint32()))
	}
}

// TestManyTreesSideBySide: each draft of any of them leaves all others as they were.
func TestManyTreesSideBySide(t *testing.T) {
	for seed := range int64(6) {
		r := rand.New(rand.NewSource(seed))
		g := newGround(t, 4000, 1+r.Intn(100))
		roots := []uint32{0}
		for range 60 {
			var l []api.Change
			for range r.Intn(30) {
				l = append(l, anyChange(r, mixed(1+r.Intn(3), uint32(r.Intn(90)))))
			}
			roots = append(roots, g.edit(roots[r.Intn(len(roots))], l...))
			if len(roots) > 25 {
				at := r.Intn(len(roots))
				g.drop(roots[at])
				roots = slices.DeleteFunc(roots, func(root uint32) bool { _, is := g.trees[root]; return !is })
			}
		}
		g.allStand()
	}
}

// TestDraftsSideBySide: several of one root, written in any order, each by itself.
func TestDraftsSideBySide(t *testing.T) {
	g := newGround(t, 900, 20)
	root := g.edit(0, append(puts(0, 150, "v"), put("great", mixed(3000, 12)))...)
	lists := [][]api.Change{{put("a", "1")}, {del(numbered(7)), put("great", "small")}, dels(0, 150), puts(100, 250, mixed(64, 13)), {del("great")}, nil}
	var drafts []*tree.Draft
	for _, l := range lists {
		drafts = append(drafts, g.draft(root, l...))
	}
	for i := range slices.Backward(lists) {
		at := g.free(drafts[i].Need())
		to, err := drafts[i].Write(g.pool, at)
		if err != api.OK {
			t.Fatal(err)
		}
		g.written(root, to, drafts[i], at, lists[i])
	}
	g.allStand()
}

// TestLongRows are held against a map: mixed changes of mixed keys, some lists, some great values.
func TestLongRows(t *testing.T) {
	for seed := range int64(8) {
		r := rand.New(rand.NewSource(seed + 20))
		g := newGround(t, 3000, 1+r.Intn(200))
		length, few := []int{1, 4, 30, 160}[seed%4], 30+r.Intn(250)
		root := uint32(0)
		for step := range 250 {
			var l []api.Change
			for range 1 + r.Intn(1+step%7) {
				i := uint32(r.Intn(few))
				key := mixed(1+int(i*7919)%length, i)
				l = append(l, anyChange(r, key))
			}
			root = g.follow(root, l...)
		}
		g.stands(root)
	}
}
