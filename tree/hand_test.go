package tree_test

import (
	"encoding/binary"
	"fmt"
	"math/rand"
	"slices"
	"strings"
	"testing"

	"codicil/api"
	"codicil/disk"
	"codicil/node"
	"codicil/over"
	"codicil/page"
	"codicil/tree"
)

// sheet is a page that is laid on a disk by hand.
type sheet struct {
	number  uint32
	kind    uint8
	payload []byte
}

func small(key, value string) api.Entry { return api.Entry{Key: []byte(key), Value: []byte(value)} }

func great(key string, first uint32, size int) api.Entry {
	return api.Entry{Key: []byte(key), Page: first, Size: uint32(size)}
}

func kid(key string, number uint32) api.Entry { return api.Entry{Key: []byte(key), Page: number} }

func nodeSheet(number uint32, kind uint8, l []api.Entry) sheet {
	b, err := node.Encode(api.Node{Leaf: kind == page.Leaf, Entries: l})
	if err != api.OK {
		panic(fmt.Sprintf("page %d: %v", number, err))
	}
	return sheet{number, kind, b}
}

func leaf(number uint32, l ...api.Entry) sheet { return nodeSheet(number, page.Leaf, l) }

func branch(number uint32, l ...api.Entry) sheet { return nodeSheet(number, page.Branch, l) }

// chain is a great value on these pages.
func chain(value string, at ...uint32) []sheet {
	l, err := over.Encode([]byte(value), at)
	if err != api.OK {
		panic(err)
	}
	var out []sheet
	for i, b := range l {
		out = append(out, sheet{at[i], page.Over, b})
	}
	return out
}

// part is a page of a great value, right or not.
func part(number, next uint32, length int) sheet {
	return sheet{number, page.Over, append(binary.LittleEndian.AppendUint32(nil, next), mixed(length, number)...)}
}

// loaded is a disk of noughts, but for these pages.
func loaded(t testing.TB, pages int, sheets ...sheet) *disk.Disk {
	t.Helper()
	image := make([]byte, 1024*pages)
	for _, s := range sheets {
		b, err := page.Seal(s.kind, s.number, s.payload)
		if err != api.OK {
			t.Fatal(err)
		}
		copy(image[1024*s.number:], b)
	}
	d, err := disk.Load(image)
	if err != api.OK {
		t.Fatal(err)
	}
	return d
}

// byHand is a ground with a right tree that did not come of Edits.
func byHand(t testing.TB, pages int, root uint32, sheets ...sheet) *ground {
	t.Helper()
	g := newGround(t, pages, 40)
	g.disk = loaded(t, pages, sheets...)
	g.pool = newPool(t, g.disk, 40)
	g.born = false
	g.trees[root] = g.again(root)
	g.walks(root, g.trees[root])
	return g
}

// tower is branches of one kid above a leaf of the keys a and c, on pages from 2 on, the leaf so far below the root.
func tower(far int) []sheet {
	var out []sheet
	for at := range uint32(far) {
		out = append(out, branch(2+at, kid("", 3+at)))
	}
	return append(out, leaf(2+uint32(far), small("a", "1"), small("c", "2")))
}

// TestTowers: a leaf may be 16 pages below the root.
func TestTowers(t *testing.T) {
	for far := range 17 {
		g := byHand(t, 200, 2, tower(far)...)
		if x := g.trees[2]; x.levels != far+1 || x.branches != far {
			t.Fatalf("%d levels, %d branches", x.levels, x.branches)
		}
		g.stands(2)
		for _, l := range [][]api.Change{
			{put("b", "3")}, {put("a", "")}, {del("a")}, {del("c")}, {del("b")}, {del("c"), del("a")}, {del("a"), del("c"), put("b", mixed(2000, 1))},
			puts(0, 60, mixed(64, 2)), puts(0, 200, mixed(64, 3)),
		} {
			to := g.edit(2, l...)
			g.stands(to)
			g.stands(2)
			if to != 2 {
				g.drop(to)
			}
		}
		if d := g.draft(2, del("a"), del("c")); d.Need() != 0 || len(d.Gone()) != far+1 {
			t.Errorf("a tower of %d: Need %d, Gone %d", far, d.Need(), d.Gone())
		}
	}
	for far := 17; far < 21; far++ {
		p := newPool(t, loaded(t, 50, tower(far)...), 9)
		refusesWalk(t, p, 2, api.ErrTreeForm)
		refusesGet(t, p, 2, "a", api.ErrTreeForm)
		refusesEdit(t, p, 2, api.ErrTreeForm, put("b", "1"))
		refusesEdit(t, p, 2, api.ErrTreeForm, del("a"))
		g := byHand(t, 200, 2+uint32(far)-16, tower(far)...)
		g.stands(2 + uint32(far) - 16)
	}
}

// planter lays nodes of a tree by hand.
type planter struct {
	sheets []sheet
	next   uint32
}

func (p *planter) lay(kind uint8, l ...api.Entry) uint32 {
	number := p.next
	p.next++
	p.sheets = append(p.sheets, nodeSheet(number, kind, l))
	return number
}

// stem is a leaf of one key so many pages below the number that is told.
func (p *planter) stem(key string, far int) uint32 {
	number := p.lay(page.Leaf, small(key, "v"))
	for range far {
		number = p.lay(page.Branch, kid("", number))
	}
	return number
}

// longKey are keys of 160 bytes: a branch has room for six of them and the first, empty one.
func longKey(i int) string { return fmt.Sprintf("%06d", i) + strings.Repeat("k", 154) }

// highest lays a tree whose last leaf is full, 16 pages below the root, as each branch on the way to it is.
func (p *planter) highest() uint32 {
	var last []api.Entry
	for i := range 4 {
		last = append(last, small(longKey(1000+i), mixed(64, 4)))
	}
	number := p.lay(page.Leaf, last...)
	low := longKey(1000)
	for level := 15; level >= 0; level-- {
		var kids []api.Entry
		for i := range 6 {
			key := longKey(8*level + i)
			kids = append(kids, kid(key, p.stem(key, 15-level)))
		}
		low, kids = string(kids[0].Key), append(kids, kid(low, number))
		kids[0].Key = nil
		number = p.lay(page.Branch, kids...)
	}
	return number
}

func theHighest(t *testing.T) (*ground, uint32) {
	t.Helper()
	p := &planter{next: 2}
	root := p.highest()
	g := byHand(t, 3000, root, p.sheets...)
	if x := g.trees[root]; x.levels != 17 || len(x.pairs) != 100 {
		t.Fatalf("%d levels, %d keys", x.levels, len(x.pairs))
	}
	return g, root
}

// TestTheHighestTree: one key more would take a level more than may be, but the new tree is right all the same.
func TestTheHighestTree(t *testing.T) {
	g, root := theHighest(t)
	for _, c := range []api.Change{
		del(longKey(1001)), put(longKey(1001), ""), del(longKey(0)), del(longKey(8 * 15)), put(longKey(7), "x"),
	} {
		g.drop(g.edit(root, c))
	}
	more := put(longKey(1000)[:159]+"z", mixed(64, 5))
	for _, l := range [][]api.Change{
		{more},
		{more, put("a", mixed(3000, 6)), del("none"), put(longKey(2000), "1"), put(longKey(1002), mixed(5000, 7))},
	} {
		d, err := tree.Edit(g.pool, root, l)
		if err != api.OK {
			t.Fatal(err)
		}
		to := g.writes(root, d, g.free(d.Need()), l)
		if len(d.Gone()) != len(g.trees[root].pages) {
			t.Errorf("%d of %d pages are gone", len(d.Gone()), len(g.trees[root].pages))
		}
		g.stands(to)
		g.follow(to, put("b", "1"), del(longKey(1003)))
	}
	g.stands(root)
}

// TestTheHighestTreeThatLeadsRound: a branch of it leads to a page that is there already. That is told when all of it is to be made anew, and gone through.
func TestTheHighestTreeThatLeadsRound(t *testing.T) {
	p := &planter{next: 2}
	root := p.highest()
	top, _ := node.Decode(page.Branch, p.sheets[len(p.sheets)-1].payload)
	from := top.Entries[1].Page
	for _, to := range []uint32{root, from, top.Entries[0].Page, top.Entries[2].Page, top.Entries[6].Page} {
		d := loaded(t, 3000, append(slices.Clone(p.sheets), branch(from, kid("", to)))...)
		refusesWalk(t, newPool(t, d, 50), root, api.ErrTreeForm)
		refusesEdit(t, newPool(t, d, 50), root, api.ErrTreeForm, put(longKey(1000)[:159]+"z", mixed(64, 5)))
	}
}

// seam is a key that may stand between two: the second itself, or less, but above the first.
func seam(r *rand.Rand, a, b string) string {
	switch r.Intn(3) {
	case 0:
		return b
	case 1:
		for length := range len(b) {
			if b[:length] > a {
				return b[:length]
			}
		}
	case 2:
		if len(a) < 160 && a+"\x00" <= b {
			return a + "\x00"
		}
	}
	return b
}

// grown is a right tree of any shape: leaves and branches of any number of entries, on any pages.
type grown struct {
	root   uint32
	sheets []sheet
	keys   []string
}

type twig struct {
	number    uint32
	low, high string // its first and its last key
	between   string // the key ahead of it
}

func grow(r *rand.Rand, pages int) grown {
	numbers := r.Perm(pages - 2)
	take := func() uint32 {
		number := numbers[0]
		numbers = numbers[1:]
		return uint32(number + 2)
	}
	var out grown
	length := 1 + r.Intn(160)
	for range 1 + r.Intn(60) {
		out.keys = append(out.keys, mixed(1+r.Intn(length), r.Uint32()))
	}
	slices.Sort(out.keys)
	out.keys = slices.Compact(out.keys)
	level := out.leaves(r, take)
	for far := 0; len(level) > 1 || far < 16 && r.Intn(3) > 0; far++ {
		if len(level) == 1 && far > 12 {
			break
		}
		level = out.branches(r, level, take)
	}
	out.root = level[0].number
	return out
}

func (g *grown) leaves(r *rand.Rand, take func() uint32) []twig {
	var out []twig
	for rest := g.keys; len(rest) > 0; {
		count := 1 + r.Intn(min(4, len(rest)))
		var l []api.Entry
		for _, key := range rest[:count] {
			if r.Intn(12) == 0 {
				value := mixed(65+r.Intn(2500), r.Uint32())
				var at []uint32
				for range over.Need(len(value)) {
					at = append(at, take())
				}
				g.sheets = append(g.sheets, chain(value, at...)...)
				l = append(l, great(key, at[0], len(value)))
			} else {
				l = append(l, small(key, mixed(r.Intn(65), r.Uint32())))
			}
		}
		number := take()
		g.sheets = append(g.sheets, leaf(number, l...))
		at := twig{number: number, low: rest[0], high: rest[count-1]}
		if len(out) > 0 {
			at.between = seam(r, out[len(out)-1].high, at.low)
		}
		out, rest = append(out, at), rest[count:]
	}
	return out
}

func (g *grown) branches(r *rand.Rand, level []twig, take func() uint32) []twig {
	var out []twig
	for len(level) > 0 {
		count := min(1+r.Intn(5), len(level))
		if len(level) > 12 {
			count = max(count, 3)
		}
		l := []api.Entry{kid("", level[0].number)}
		for _, at := range level[1:count] {
			l = append(l, kid(at.between, at.number))
		}
		number := take()
		g.sheets = append(g.sheets, branch(number, l...))
		out = append(out, twig{number, level[0].low, level[count-1].high, level[0].between})
		level = level[count:]
	}
	return out
}

// TestTreesOfAnyShape: what Edit makes of right trees that it did not make itself is right, too.
func TestTreesOfAnyShape(t *testing.T) {
	for seed := range int64(250) {
		r := rand.New(rand.NewSource(seed + 100))
		made := grow(r, 500)
		g := byHand(t, 1000, made.root, made.sheets...)
		if len(g.trees[made.root].pairs) != len(made.keys) {
			t.Fatalf("%d keys, not %d", len(g.trees[made.root].pairs), len(made.keys))
		}
		root := made.root
		for range 8 {
			var l []api.Change
			for range 1 + r.Intn(12) {
				key := made.keys[r.Intn(len(made.keys))]
				if r.Intn(3) == 0 {
					key = mixed(1+r.Intn(160), r.Uint32())
				}
				l = append(l, anyChange(r, key))
			}
			next := g.edit(root, l...)
			if root != made.root && root != next {
				g.drop(root)
			}
			root = next
		}
		g.stands(root)
		var all []api.Change
		for key := range g.trees[root].pairs {
			all = append(all, del(key))
		}
		if to := g.edit(root, all...); to != 0 {
			t.Errorf("root %d of no keys", to)
		}
		g.stands(made.root)
	}
}
