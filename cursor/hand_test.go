package cursor_test

import (
	"encoding/binary"
	"fmt"
	"math/rand"
	"slices"
	"testing"

	"codicil/api"
	"codicil/disk"
	"codicil/node"
	"codicil/over"
	"codicil/page"
	"codicil/tree"
)

// sheet is a page that is laid on a disk by hand.
type sheet struct {
	number  uint32
	kind    uint8
	payload []byte
}

func small(key, value string) api.Entry { return api.Entry{Key: []byte(key), Value: []byte(value)} }

func great(key string, first uint32, size int) api.Entry {
	return api.Entry{Key: []byte(key), Page: first, Size: uint32(size)}
}

func kid(key string, number uint32) api.Entry { return api.Entry{Key: []byte(key), Page: number} }

func nodeSheet(number uint32, kind uint8, l []api.Entry) sheet {
	b, err := node.Encode(api.Node{Leaf: kind == page.Leaf, Entries: l})
	if err != api.OK {
		panic(fmt.Sprintf("page %d: %v", number, err))
	}
	return sheet{number, kind, b}
}

func leaf(number uint32, l ...api.Entry) sheet { return nodeSheet(number, page.Leaf, l) }

func branch(number uint32, l ...api.Entry) sheet { return nodeSheet(number, page.Branch, l) }

// chain is a great value on these pages.
func chain(value string, at ...uint32) []sheet {
	l, err := over.Encode([]byte(value), at)
	if err != api.OK {
		panic(err)
	}
	var out []sheet
	for i, b := range l {
		out = append(out, sheet{at[i], page.Over, b})
	}
	return out
}

// part is a page of a great value, right or not.
func part(number, next uint32, length int) sheet {
	return sheet{number, page.Over, append(binary.LittleEndian.AppendUint32(nil, next), mixed(length, number)...)}
}

// loaded is a disk of noughts, but for these pages.
func loaded(t testing.TB, pages int, sheets ...sheet) *disk.Disk {
	t.Helper()
	image := make([]byte, 1024*pages)
	for _, s := range sheets {
		b, err := page.Seal(s.kind, s.number, s.payload)
		if err != api.OK {
			t.Fatal(err)
		}
		copy(image[1024*s.number:], b)
	}
	d, err := disk.Load(image)
	if err != api.OK {
		t.Fatal(err)
	}
	return d
}

// tower is branches of one kid above a leaf of the keys a and c, on pages from 2 on, the leaf so far below the root.
func tower(far int) []sheet {
	var out []sheet
	for at := range uint32(far) {
		out = append(out, branch(2+at, kid("", 3+at)))
	}
	return append(out, leaf(2+uint32(far), small("a", "1"), small("c", "2")))
}

// grown is a tree of any shape: leaves and branches of any number of entries, on any pages.
type grown struct {
	root   uint32
	sheets []sheet
	list   []pair
	pages  int
}

// byHand is a right tree that did not come of Edits.
func byHand(t testing.TB, most int, made grown) *ground {
	t.Helper()
	d := loaded(t, made.pages, made.sheets...)
	g := &ground{t, d, newPool(t, d, most), made.root, made.list}
	if _, keys, err := tree.Walk(g.pool, g.root); err != api.OK || keys != len(g.list) {
		t.Fatalf("Walk: %d keys, %v", keys, err)
	}
	return g
}

// seam is a key that may stand between two: the second itself, or less, but above the first.
func seam(r *rand.Rand, a, b string) string {
	switch r.Intn(3) {
	case 0:
		return b
	case 1:
		for length := range len(b) {
			if b[:length] > a {
				return b[:length]
			}
		}
	case 2:
		if len(a) < 160 && a+"\x00" <= b {
			return a + "\x00"
		}
	}
	return b
}

// twig is a page of a tree that grows, and the key that parts it from the one ahead.
type twig struct {
	number uint32
	seam   string
}

// planter grows a tree on pages in any order.
type planter struct {
	*rand.Rand
	grown
	numbers []int
}

func (p *planter) take() uint32 {
	number := p.numbers[0]
	p.numbers = p.numbers[1:]
	return uint32(number + 2)
}

// grow is a right tree of up to 60 keys, none of whose pages has to be full, with up to 17 levels.
func grow(r *rand.Rand, pages int) grown {
	p := &planter{Rand: r, numbers: r.Perm(pages - 2)}
	p.pages = pages
	all := map[string]string{}
	longest := 1 + r.Intn(160)
	for range 1 + r.Intn(60) {
		size := r.Intn(65)
		if r.Intn(12) == 0 {
			size = 65 + r.Intn(2500)
		}
		all[mixed(1+r.Intn(longest), r.Uint32())] = mixed(size, r.Uint32())
	}
	p.list = listed(all)
	level := p.leaves()
	for far := 0; len(level) > 1 || far < 16 && r.Intn(12) > 0; far++ {
		level = p.branches(level, far)
	}
	p.root = level[0].number
	return p.grown
}

func (p *planter) leaves() []twig {
	var out []twig
	last := ""
	for rest := p.list; len(rest) > 0; {
		count := 1 + p.Intn(min(4, len(rest)))
		var l []api.Entry
		for _, x := range rest[:count] {
			l = append(l, p.entry(x))
		}
		at := twig{p.take(), seam(p.Rand, last, rest[0].key)}
		p.sheets = append(p.sheets, leaf(at.number, l...))
		last = rest[count-1].key
		out, rest = append(out, at), rest[count:]
	}
	return out
}

func (p *planter) entry(x pair) api.Entry {
	need := over.Need(len(x.value))
	if need == 0 {
		return small(x.key, x.value)
	}
	var at []uint32
	for range need {
		at = append(at, p.take())
	}
	p.sheets = append(p.sheets, chain(x.value, at...)...)
	return great(x.key, at[0], len(x.value))
}

// branches have few kids, but so many that there are no more levels than may be.
func (p *planter) branches(level []twig, far int) []twig {
	var out []twig
	for len(level) > 0 {
		count := 1 + p.Intn(5)
		if len(level) > 12 || far > 11 {
			count = max(count, 3)
		}
		count = min(count, len(level))
		l := []api.Entry{kid("", level[0].number)}
		for _, at := range level[1:count] {
			l = append(l, kid(at.seam, at.number))
		}
		at := twig{p.take(), level[0].seam}
		p.sheets = append(p.sheets, branch(at.number, l...))
		out, level = append(out, at), level[count:]
	}
	return out
}

// orchard is a right tree of three levels: the root 10; the branches 20 and 30; the leaves 21 to 23 and 31 to 33; great values of e (on 40, 41, 42) and q (on 50).
func orchard(others ...sheet) grown {
	e, q := mixed(3000, 1), mixed(65, 2)
	sheets := slices.Concat([]sheet{
		branch(10, kid("", 20), kid("m", 30)),
		branch(20, kid("", 21), kid("d", 22), kid("h", 23)),
		branch(30, kid("", 31), kid("p", 32), kid("t", 33)),
		leaf(21, small("a", "1"), small("c", "2")),
		leaf(22, small("d", "3"), great("e", 40, 3000), small("g", "")),
		leaf(23, small("h", "4"), small("l", "5")),
		leaf(31, small("m", "6"), small("o", "7")),
		leaf(32, small("p", "8"), great("q", 50, 65)),
		leaf(33, small("t", "9"), small("z", "0")),
	}, chain(e, 40, 41, 42), chain(q, 50), others)
	list := []pair{{"a", "1"}, {"c", "2"}, {"d", "3"}, {"e", e}, {"g", ""}, {"h", "4"}, {"l", "5"}, {"m", "6"}, {"o", "7"}, {"p", "8"}, {"q", q}, {"t", "9"}, {"z", "0"}}
	return grown{10, sheets, list, 60}
}

func TestTheOrchard(t *testing.T) {
	g := byHand(t, 4, orchard())
	g.tellsAll()
	g.rises()
	g.wanders(newCursor(g), rand.New(rand.NewSource(1)), 500)
}

// TestTowers: a leaf may be 16 pages below the root, and no more.
func TestTowers(t *testing.T) {
	for far := range 17 {
		g := byHand(t, 4, grown{2, tower(far), []pair{{"a", "1"}, {"c", "2"}}, 60})
		g.tellsAll()
		g.rises()
	}
	for far := 17; far < 21; far++ {
		g := &ground{TB: t, disk: loaded(t, 60, tower(far)...), root: 2}
		g.pool = newPool(t, g.disk, 9)
		g.refusesAll(api.ErrTreeForm, "", "a", "b", "c", "d")
		top := 2 + uint32(far) - 16
		byHand(t, 4, grown{top, tower(far), []pair{{"a", "1"}, {"c", "2"}}, 60}).tellsAll()
	}
}

// TestSeams: keys that part pages need not be there; the way to what is beside them goes over two pages.
func TestSeams(t *testing.T) {
	for _, made := range []grown{
		orchard(branch(20, kid("", 21), kid("c\x00", 22), kid("gg", 23))),
		orchard(branch(30, kid("", 31), kid("o\x00", 32), kid("q\x00", 33))),
		orchard(branch(10, kid("", 20), kid("l\x00", 30))),
		orchard(branch(20, kid("", 21), kid("cc", 22), kid("h", 23)), branch(10, kid("", 20), kid("lz", 30))),
	} {
		g := byHand(t, 4, made)
		for _, from := range []string{"c\x00", "c\x00\x00", "cc", "cb", "cd", "gg", "gf", "gh", "o\x00", "q\x00", "l\x00", "l\x00\x00", "lz", "ly", "m"} {
			g.tells(from)
		}
		g.tellsAll()
		g.rises()
	}
}
