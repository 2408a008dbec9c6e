package tree_test

import (
	"bytes"
	"maps"
	"math"
	"math/rand"
	"slices"
	"strings"
	"testing"

	"codicil/api"
	"codicil/disk"
	"codicil/node"
	"codicil/over"
	"codicil/pool"
	"codicil/tree"
)

const (
	greatest  = math.MaxUint32
	readKind  = 1
	writeKind = 2
)

func put(key, value string) api.Change {
	return api.Change{Key: []byte(key), Value: []byte(value)}
}

func del(key string) api.Change { return api.Change{Key: []byte(key), Delete: true} }

// mixed are n bytes that look like nothing, the same ones for the same seed.
func mixed(n int, seed uint32) string {
	out := make([]byte, n)
	state := seed*2654435761 + 12345
	for at := range out {
		state = state*1664525 + 1013904223
		out[at] = byte(state >> 24)
	}
	return string(out)
}

func newDisk(t testing.TB, pages int) *disk.Disk {
	t.Helper()
	d, err := disk.New(pages)
	if err != api.OK {
		t.Fatal(err)
	}
	return d
}

func newPool(t testing.TB, d *disk.Disk, most int) *pool.Pool {
	t.Helper()
	p, err := pool.New(d, most)
	if err != api.OK {
		t.Fatal(err)
	}
	return p
}

// plain is what a tree has, by the chapter's words.
type plain struct {
	pages            []uint32
	pairs            map[string]string
	leaves, branches int
	levels           int
	poor             int // leaves of one key and branches of one kid, the root aside
}

// place is a page of a tree, with all bounds that its keys have.
type place struct {
	number      uint32
	lows, highs []string
}

// kid is a branch's, bound by the branch's bounds and by the keys beside its entry.
func (p place) kid(n api.Node, at int) place {
	out := place{n.Entries[at].Page, slices.Clone(p.lows), slices.Clone(p.highs)}
	if at > 0 {
		out.lows = append(out.lows, string(n.Entries[at].Key))
	}
	if at < len(n.Entries)-1 {
		out.highs = append(out.highs, string(n.Entries[at+1].Key))
	}
	return out
}

func (p place) holds(key string) bool {
	return !slices.ContainsFunc(p.lows, func(low string) bool { return key < low }) &&
		!slices.ContainsFunc(p.highs, func(high string) bool { return key >= high })
}

// plainWalk goes through a tree level by level, and says whether it is a right one.
func plainWalk(p *pool.Pool, root uint32) (plain, bool) {
	out := plain{pairs: map[string]string{}}
	if root == 0 {
		return out, true
	}
	for level := []place{{number: root}}; len(level) > 0; out.levels++ {
		if out.levels == 17 {
			return plain{}, false
		}
		next, right := out.level(p, level)
		if !right {
			return plain{}, false
		}
		level = next
	}
	slices.Sort(out.pages)
	return out, len(slices.Compact(slices.Clone(out.pages))) == len(out.pages)
}

// level is the level below one, none below leaves.
func (out *plain) level(p *pool.Pool, level []place) ([]place, bool) {
	var next []place
	for _, at := range level {
		kind, payload, err := p.Read(at.number)
		if err != api.OK || slices.Contains(out.pages, at.number) {
			return nil, false
		}
		out.pages = append(out.pages, at.number)
		n, err := node.Decode(kind, payload)
		if err != api.OK {
			return nil, false
		}
		if len(n.Entries) < 2 && out.levels > 0 {
			out.poor++
		}
		if n.Leaf {
			out.leaves++
			if !out.leaf(p, n, at) {
				return nil, false
			}
			continue
		}
		out.branches++
		for i := range n.Entries {
			next = append(next, at.kid(n, i))
		}
	}
	return next, len(next) == 0 || out.leaves == 0
}

func (out *plain) leaf(p *pool.Pool, n api.Node, at place) bool {
	for _, e := range n.Entries {
		if !at.holds(string(e.Key)) {
			return false
		}
		value := e.Value
		if e.Page != 0 {
			great, pages, err := over.Read(p, e.Page, e.Size)
			if err != api.OK {
				return false
			}
			value = great
			out.pages = append(out.pages, pages...)
		}
		out.pairs[string(e.Key)] = string(value)
	}
	return true
}

// applied is what changes make of pairs, one behind the other.
func applied(pairs map[string]string, l []api.Change) map[string]string {
	out := maps.Clone(pairs)
	if out == nil {
		out = map[string]string{}
	}
	for _, c := range l {
		if c.Delete {
			delete(out, string(c.Key))
		} else {
			out[string(c.Key)] = string(c.Value)
		}
	}
	return out
}

// ground is a disk with trees on it, side by side.
type ground struct {
	testing.TB
	disk  *disk.Disk
	pool  *pool.Pool
	trees map[uint32]plain
	order *rand.Rand
	born  bool // all trees came of the empty one by Edits alone
}

func newGround(t testing.TB, pages, most int) *ground {
	t.Helper()
	d := newDisk(t, pages)
	return &ground{t, d, newPool(t, d, most), map[uint32]plain{0: {pairs: map[string]string{}}}, rand.New(rand.NewSource(int64(pages))), true}
}

// free are so many pages, in any order, that no tree has.
func (g *ground) free(count int) []uint32 {
	g.Helper()
	used := make([]bool, g.disk.Pages())
	for _, x := range g.trees {
		for _, number := range x.pages {
			used[number] = true
		}
	}
	var out []uint32
	for number := 2; number < len(used); number++ {
		if !used[number] {
			out = append(out, uint32(number))
		}
	}
	if len(out) < count {
		g.Fatalf("%d pages are free, %d are needed", len(out), count)
	}
	g.order.Shuffle(len(out), func(i, j int) { out[i], out[j] = out[j], out[i] })
	return out[:count]
}

// draft is Edit's, with what can be told of it ahead of its being written.
func (g *ground) draft(root uint32, l ...api.Change) *tree.Draft {
	g.Helper()
	before := g.trees[root]
	d, err := tree.Edit(g.pool, root, l)
	if err != api.OK || d == nil {
		g.Fatalf("Edit(%d, %d changes): %v", root, len(l), err)
	}
	want := applied(before.pairs, l)
	if d.More() != len(want)-len(before.pairs) {
		g.Fatalf("More: %d, from %d keys to %d", d.More(), len(before.pairs), len(want))
	}
	most := 60*len(l) + 8
	for _, c := range l {
		if !c.Delete {
			most += over.Need(len(c.Value))
		}
	}
	if d.Need() > most {
		g.Fatalf("Need: %d, of %d changes", d.Need(), len(l))
	}
	gone := d.Gone()
	for at, number := range gone {
		if !slices.Contains(before.pages, number) || at > 0 && gone[at-1] >= number {
			g.Fatalf("Gone: %d, of the pages %d", gone, before.pages)
		}
	}
	return d
}

// written looks at what a draft became: its pages, its keys and values, and that it is small.
func (g *ground) written(root, to uint32, d *tree.Draft, at []uint32, l []api.Change) {
	g.Helper()
	before, want := g.trees[root], applied(g.trees[root].pairs, l)
	after, right := plainWalk(g.pool, to)
	if !right {
		g.Fatalf("%d is no right tree behind %d changes", to, len(l))
	}
	if !maps.Equal(after.pairs, want) {
		g.Fatalf("%d keys, not the %d that are wanted, or other values", len(after.pairs), len(want))
	}
	if (to == 0) != (len(want) == 0) {
		g.Fatalf("root %d of %d keys", to, len(want))
	}
	gone := d.Gone()
	stay := slices.DeleteFunc(slices.Clone(before.pages), func(number uint32) bool { return slices.Contains(gone, number) })
	pages := slices.Concat(stay, at)
	slices.Sort(pages)
	if !slices.Equal(after.pages, pages) {
		g.Fatalf("the pages are %d, not %d", after.pages, pages)
	}
	g.walks(to, after)
	for _, c := range l {
		value, is := want[string(c.Key)]
		g.tells(to, string(c.Key), value, is)
	}
	if g.born && (after.leaves+after.branches > len(want)+8 || after.poor > 0) {
		g.Fatalf("%d leaves and %d branches of %d keys, %d of them poor", after.leaves, after.branches, len(want), after.poor)
	}
	g.trees[to] = after
}

// edit makes changes of a tree, on pages that no tree has, and looks at all that is promised.
func (g *ground) edit(root uint32, l ...api.Change) uint32 {
	g.Helper()
	d := g.draft(root, l...)
	at := g.free(d.Need())
	to, err := d.Write(g.pool, at)
	if err != api.OK {
		g.Fatalf("Write(%d): %v", at, err)
	}
	g.written(root, to, d, at, l)
	return to
}

// follow is edit, behind which the old tree is not kept.
func (g *ground) follow(root uint32, l ...api.Change) uint32 {
	g.Helper()
	to := g.edit(root, l...)
	if to != root {
		g.drop(root)
	}
	return to
}

func (g *ground) drop(root uint32) {
	if root != 0 {
		delete(g.trees, root)
	}
}

func (g *ground) walks(root uint32, want plain) {
	g.Helper()
	pages, keys, err := tree.Walk(g.pool, root)
	if err != api.OK || keys != len(want.pairs) || !slices.Equal(pages, want.pages) {
		g.Fatalf("Walk(%d): %d, %d keys, %v; not %d and %d keys", root, pages, keys, err, want.pages, len(want.pairs))
	}
}

func (g *ground) tells(root uint32, key, value string, is bool) {
	g.Helper()
	got, there, err := tree.Get(g.pool, root, []byte(key))
	if err != api.OK || there != is || string(got) != value {
		g.Fatalf("Get(%d, %q): %d bytes, %v, %v; not %d bytes, %v", root, key, len(got), there, err, len(value), is)
	}
}

// stands looks whether a tree is as it was: by Get of all its keys, and of others beside them.
func (g *ground) stands(root uint32) {
	g.Helper()
	x := g.trees[root]
	g.walks(root, x)
	if now, right := plainWalk(g.pool, root); !right || !maps.Equal(now.pairs, x.pairs) {
		g.Fatalf("the tree of root %d has changed", root)
	}
	for key, value := range x.pairs {
		g.tells(root, key, value, true)
		for _, other := range []string{key + "\x00", key[:len(key)-1], key + "\xff", strings.ToUpper(key)} {
			value, is := x.pairs[other]
			g.tells(root, other, value, is)
		}
	}
	g.tells(root, "", "", false)
	g.tells(root, strings.Repeat("\xff", 161), "", false)
}

func (g *ground) allStand() {
	g.Helper()
	for root := range g.trees {
		g.stands(root)
	}
}

// costs looks how many reads and writes something does, and that it syncs nothing.
func (g *ground) costs(what string, reads, writes int, do func()) {
	g.Helper()
	before := g.disk.Counts()
	do()
	after := g.disk.Counts()
	if want := (api.Counts{Reads: before.Reads + reads, Writes: before.Writes + writes, Syncs: before.Syncs}); after != want {
		g.Errorf("%s: counted are %+v, not %+v", what, after, want)
	}
}

func refusesEdit(t testing.TB, p *pool.Pool, root uint32, want api.Errno, l ...api.Change) {
	t.Helper()
	if d, err := tree.Edit(p, root, l); err != want || d != nil {
		t.Errorf("Edit(%d, %d changes): %v and %v, not %v", root, len(l), d, err, want)
	}
}

func refusesWrite(t testing.TB, d *tree.Draft, p *pool.Pool, want api.Errno, at ...uint32) {
	t.Helper()
	if root, err := d.Write(p, at); err != want || root != 0 {
		t.Errorf("Write(%d): %d and %v, not %v", at, root, err, want)
	}
}

func refusesWalk(t testing.TB, p *pool.Pool, root uint32, want api.Errno) {
	t.Helper()
	if pages, keys, err := tree.Walk(p, root); err != want || len(pages) != 0 || keys != 0 {
		t.Errorf("Walk(%d): %d, %d keys, %v, not %v", root, pages, keys, err, want)
	}
}

func refusesGet(t testing.TB, p *pool.Pool, root uint32, key string, want api.Errno) {
	t.Helper()
	if value, is, err := tree.Get(p, root, []byte(key)); err != want || is || len(value) != 0 {
		t.Errorf("Get(%d, %q): %d bytes, %v, %v, not %v", root, key, len(value), is, err, want)
	}
}

// withRoom is a list with other things in the room behind it.
func withRoom[T any](list []T, room int, other T) []T {
	out := slices.Clone(list)
	for range room {
		out = append(out, other)
	}
	return out[:len(list):len(out)]
}

// spoil writes into all memory that a list has, also into the room behind it.
func spoil[T byte | uint32](list []T) {
	for at := range list[:cap(list)] {
		list[:cap(list)][at] ^= 0x5a
	}
}

func sameChange(a, b api.Change) bool {
	return bytes.Equal(a.Key, b.Key) && bytes.Equal(a.Value, b.Value) && a.Delete == b.Delete
}
