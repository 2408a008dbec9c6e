package cursor_test

import (
	"bytes"
	"fmt"
	"maps"
	"slices"
	"strings"
	"testing"

	"codicil/api"
	"codicil/cursor"
	"codicil/disk"
	"codicil/pool"
	"codicil/tree"
)

// readKind is the disk's kind of a read.
const readKind = 1

// pair is one of a tree, as texts.
type pair struct{ key, value string }

// mixed are n bytes that look like nothing, the same ones for the same seed.
func mixed(n int, seed uint32) string {
	out := make([]byte, n)
	state := seed*2654435761 + 12345
	for at := range out {
		state = state*1664525 + 1013904223
		out[at] = byte(state >> 24)
	}
	return string(out)
}

func newDisk(t testing.TB, pages int) *disk.Disk {
	t.Helper()
	d, err := disk.New(pages)
	if err != api.OK {
		t.Fatal(err)
	}
	return d
}

func newPool(t testing.TB, d *disk.Disk, most int) *pool.Pool {
	t.Helper()
	p, err := pool.New(d, most)
	if err != api.OK {
		t.Fatal(err)
	}
	return p
}

// ground is a tree on a disk, and the list of what it has, rising.
type ground struct {
	testing.TB
	disk *disk.Disk
	pool *pool.Pool
	root uint32
	list []pair
}

// planted is a tree of these pairs that came of one Edit.
func planted(t testing.TB, most int, all map[string]string) *ground {
	t.Helper()
	d := newDisk(t, 2000)
	return (&ground{TB: t, disk: d, pool: newPool(t, d, most)}).edited(all)
}

// edited is a tree beside this one, on the same disk: it has these pairs, too, and some keys not.
func (g *ground) edited(puts map[string]string, deletes ...string) *ground {
	g.Helper()
	all := map[string]string{}
	for _, x := range g.list {
		all[x.key] = x.value
	}
	maps.Copy(all, puts)
	var l []api.Change
	for _, x := range listed(puts) {
		l = append(l, api.Change{Key: []byte(x.key), Value: []byte(x.value)})
	}
	for _, key := range deletes {
		delete(all, key)
		l = append(l, api.Change{Key: []byte(key), Delete: true})
	}
	return &ground{g.TB, g.disk, g.pool, g.written(l), listed(all)}
}

// written is the root behind some changes, on pages that this tree does not have.
func (g *ground) written(l []api.Change) uint32 {
	g.Helper()
	draft, err := tree.Edit(g.pool, g.root, l)
	if err != api.OK {
		g.Fatal(err)
	}
	old, _, _ := tree.Walk(g.pool, g.root)
	var at []uint32
	for number := uint32(2); len(at) < draft.Need(); number++ {
		if !slices.Contains(old, number) {
			at = append(at, number)
		}
	}
	root, err := draft.Write(g.pool, at)
	if err != api.OK {
		g.Fatal(err)
	}
	g.disk.Sync()
	return root
}

func listed(all map[string]string) []pair {
	var out []pair
	for _, key := range slices.Sorted(maps.Keys(all)) {
		out = append(out, pair{key, all[key]})
	}
	return out
}

// levels is how many a tree has, told by what is read for its first key with nothing at hand. (That has a small value.)
func (g *ground) levels() int {
	g.Helper()
	before := g.disk.Counts().Reads
	if _, _, err := tree.Get(newPool(g, g.disk, 1), g.root, nil); err != api.OK {
		g.Fatal(err)
	}
	return g.disk.Counts().Reads - before
}

// plainNext goes through the whole list.
func (g *ground) plainNext(from string, in bool) (pair, bool) {
	for _, x := range g.list {
		if x.key > from || in && x.key == from {
			return x, true
		}
	}
	return pair{}, false
}

func (g *ground) plainPrev(from string, in bool) (pair, bool) {
	var out pair
	is := false
	for _, x := range g.list {
		if x.key < from || in && (x.key == from || from == "") {
			out, is = x, true
		}
	}
	return out, is
}

// same says whether an answer without error is what the list tells.
func same(got api.Pair, is bool, err api.Errno, want pair, there bool) bool {
	return err == api.OK && is == there && string(got.Key) == want.key && string(got.Value) == want.value
}

// short is a key in a message.
func short(key string) string {
	if len(key) > 20 {
		return fmt.Sprintf("%q (%d bytes)", key[:20], len(key))
	}
	return fmt.Sprintf("%q", key)
}

// tells looks at both calls of a root from one key, with it and without.
func (g *ground) tells(from string) {
	g.Helper()
	for _, in := range []bool{false, true} {
		want, there := g.plainNext(from, in)
		if got, is, err := cursor.Next(g.pool, g.root, []byte(from), in); !same(got, is, err, want, there) {
			g.Errorf("Next(%s, %v): %s and %d bytes, %v, %v; not %s and %d bytes", short(from), in, short(string(got.Key)), len(got.Value), is, err, short(want.key), len(want.value))
		}
		want, there = g.plainPrev(from, in)
		if got, is, err := cursor.Prev(g.pool, g.root, []byte(from), in); !same(got, is, err, want, there) {
			g.Errorf("Prev(%s, %v): %s and %d bytes, %v, %v; not %s and %d bytes", short(from), in, short(string(got.Key)), len(got.Value), is, err, short(want.key), len(want.value))
		}
	}
}

// froms are keys to ask from: all that are there, some close beside each, and some that are far from all.
func (g *ground) froms() []string {
	out := []string{"", "\x00", "0", "a", "m", "zz", "\xff", strings.Repeat("\x00", 160), strings.Repeat("\x00", 161), strings.Repeat("\xff", 160), strings.Repeat("\xff", 161), strings.Repeat("m", 161), mixed(1000, 1)}
	for _, x := range g.list {
		last := len(x.key) - 1
		out = append(out, x.key, x.key+"\x00", x.key+"\xff", x.key[:last])
		if x.key[last] > 0 {
			out = append(out, x.key[:last]+string([]byte{x.key[last] - 1})+strings.Repeat("\xff", 160-last))
		}
	}
	return out
}

func (g *ground) tellsAll() {
	g.Helper()
	for _, from := range g.froms() {
		g.tells(from)
	}
}

// rises looks whether Next from the empty key on, again and again, tells the list, and Prev from the end on, backwards: by roots and by one cursor.
func (g *ground) rises() {
	g.Helper()
	up := g.row(nil, false, cursor.Next)
	if !slices.Equal(up, g.list) {
		g.Errorf("Next tells %d pairs, not these %d", len(up), len(g.list))
	}
	fallen := slices.Clone(g.list)
	slices.Reverse(fallen)
	if down := g.row(nil, true, cursor.Prev); !slices.Equal(down, fallen) {
		g.Errorf("Prev tells %d pairs, not these %d", len(down), len(fallen))
	}
	c := cursor.New(g.pool, g.root)
	for range 2 {
		if up := g.steps(c.Next); !slices.Equal(up, g.list) {
			g.Errorf("a cursor's Next tells %d pairs, not these %d", len(up), len(g.list))
		}
		if down := g.steps(c.Prev); !slices.Equal(down, fallen) {
			g.Errorf("a cursor's Prev tells %d pairs, not these %d", len(down), len(fallen))
		}
	}
}

// row is what a call of a root tells, each time from what it told last.
func (g *ground) row(from []byte, in bool, call func(*pool.Pool, uint32, []byte, bool) (api.Pair, bool, api.Errno)) []pair {
	return g.steps(func() (api.Pair, bool, api.Errno) {
		got, is, err := call(g.pool, g.root, from, in)
		from, in = bytes.Clone(got.Key), false
		return got, is, err
	})
}

// steps is what a call tells again and again, up to the first false.
func (g *ground) steps(call func() (api.Pair, bool, api.Errno)) []pair {
	g.Helper()
	var out []pair
	for range len(g.list) + 2 {
		got, is, err := call()
		if err != api.OK {
			g.Fatal(err)
		}
		if !is {
			return out
		}
		out = append(out, pair{string(got.Key), string(got.Value)})
	}
	g.Error("it does not end")
	return out
}

// costs looks how many reads something does, and that it writes and syncs nothing.
func (g *ground) costs(what string, reads int, do func()) {
	g.Helper()
	before := g.disk.Counts()
	do()
	before.Reads += reads
	if after := g.disk.Counts(); after != before {
		g.Errorf("%s: counted are %+v, not %+v", what, after, before)
	}
}

// numbered is a key of six bytes; so many of them fill leaves of a few dozen.
func numbered(i int) string { return fmt.Sprintf("k%05d", i) }

// longKey is one of 160 bytes: a leaf has room for few of them, and a branch for six.
func longKey(i int) string { return fmt.Sprintf("%06d", i) + strings.Repeat("k", 154) }

// sizes are those at which values stand elsewhere, or on one page more.
func sizes() []int { return []int{0, 1, 64, 65, 1004, 1005, 2008, 2009, 8192} }

// some are pairs of n keys whose values are small but for a few.
func some(n int, name func(int) string) map[string]string {
	out := map[string]string{}
	for i := range n {
		size := (i * 7) % 65
		if i%23 == 11 {
			size = sizes()[i/23%len(sizes())]
		}
		out[name(2*i)] = mixed(size, uint32(i))
	}
	return out
}

// trees are of all sizes that a cursor meets, by how many levels they have.
func trees(t testing.TB, most int) map[string]*ground {
	t.Helper()
	out := map[string]*ground{
		"no key":           planted(t, most, nil),
		"one key":          planted(t, most, map[string]string{"k": "v"}),
		"one long key":     planted(t, most, map[string]string{longKey(7): ""}),
		"one leaf":         planted(t, most, map[string]string{"a": "1", "ab": "", "abc": mixed(64, 1), "b\x00": "2", "b": "3", "\x00": "4", "\xff": mixed(65, 2)}),
		"two levels":       planted(t, most, some(120, numbered)),
		"two long levels":  planted(t, most, some(12, longKey)),
		"three levels":     planted(t, most, some(100, longKey)),
		"three long lists": planted(t, most, some(1400, numbered)),
	}
	for name, want := range map[string]int{"no key": 0, "one key": 1, "one leaf": 1, "two levels": 2, "two long levels": 2, "three levels": 3, "three long lists": 3} {
		if got := out[name].levels(); got != want {
			t.Fatalf("%s: %d levels, not %d", name, got, want)
		}
	}
	return out
}

// withRoom is a list with other bytes in the room behind it.
func withRoom(list []byte, room int, other byte) []byte {
	out := append(slices.Clone(list), bytes.Repeat([]byte{other}, room)...)
	return out[:len(list):len(out)]
}

// spoil writes into all memory that a list has, also into the room behind it.
func spoil(list []byte) {
	for at := range list[:cap(list)] {
		list[:cap(list)][at] ^= 0x5a
	}
}
