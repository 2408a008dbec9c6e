package commit_test

import (
	"bytes"
	"encoding/binary"
	"maps"
	"slices"
	"testing"

	"codicil/api"
	"codicil/commit"
	"codicil/node"
	"codicil/page"
)

// hand is a file's bytes, changed by hand.
type hand struct {
	testing.TB
	image []byte
	file
}

// handmade is a file with a tree of three levels, great values, and a list of two pages, of which one state is left. Its disk has more pages than it.
func handmade(t testing.TB) *hand {
	t.Helper()
	g := newGround(t, 800)
	g.must(append(puts(0, 900, mixed(60, 1)), put("great", mixed(3000, 2)), put("greater", mixed(8192, 3)))...)
	var l []api.Change
	for n := range 40 {
		l = append(l, put("x"+numbered(n), mixed(8192, uint32(n))))
	}
	g.must(l...)
	for n := range l {
		l[n].Delete = true
	}
	g.must(l...)
	h := &hand{t, g.disk.Image(), g.file}
	h.state(h.meta)
	if len(h.list) != 2 || len(h.free) < 300 || g.disk.Pages() < int(h.meta.Pages)+9 {
		t.Fatalf("%+v, %d, %d", h.meta, len(h.list), len(h.free))
	}
	return h
}

// state lets just one state stand.
func (h *hand) state(m api.Meta) {
	h.Helper()
	sector, err := page.PutMeta(m)
	if err != api.OK {
		h.Fatalf("%+v: %v", m, err)
	}
	clear(h.image[:api.Sector])
	clear(h.image[api.PageSize:][:api.Sector])
	copy(h.image[m.Generation%2*api.PageSize:], sector)
	h.meta = m
}

func (h *hand) page(number uint32) []byte { return h.image[int(number)*api.PageSize:][:api.PageSize] }

func (h *hand) get(number uint32) (uint8, []byte) {
	h.Helper()
	kind, payload, err := page.Open(number, h.page(number))
	if err != api.OK {
		h.Fatalf("page %d: %v", number, err)
	}
	return kind, payload
}

func (h *hand) set(number uint32, kind uint8, payload []byte) {
	h.Helper()
	b, err := page.Seal(kind, number, payload)
	if err != api.OK {
		h.Fatal(err)
	}
	copy(h.page(number), b)
}

// lists lays a list down: its own pages, and the part that each has.
func (h *hand) lists(at []uint32, parts ...[]uint32) {
	h.Helper()
	for i, number := range at {
		payload := binary.LittleEndian.AppendUint32(nil, append(at[i+1:], 0)[0])
		for _, each := range parts[i] {
			payload = binary.LittleEndian.AppendUint32(payload, each)
		}
		h.set(number, page.Free, payload)
	}
	m := h.meta
	m.Free = at[0]
	h.state(m)
}

// leads lets a page of the list lead to another one.
func (h *hand) leads(number, next uint32) {
	h.Helper()
	_, payload := h.get(number)
	binary.LittleEndian.PutUint32(payload, next)
	h.set(number, page.Free, payload)
}

// node changes one of the tree.
func (h *hand) node(number uint32, change func(n *api.Node)) {
	h.Helper()
	kind, payload := h.get(number)
	n, err := node.Decode(kind, payload)
	if err != api.OK {
		h.Fatal(err)
	}
	change(&n)
	b, err := node.Encode(n)
	if err != api.OK {
		h.Fatal(err)
	}
	h.set(number, kind, b)
}

// first is the first page of a kind in the tree.
func (h *hand) first(kind uint8) uint32 {
	for _, number := range h.tree {
		if is, _ := h.get(number); is == kind {
			return number
		}
	}
	h.Fatal("no such page")
	return 0
}

// with is the state with something else in it.
func (h *hand) with(change func(m *api.Meta)) {
	h.Helper()
	m := h.meta
	change(&m)
	h.state(m)
}

// kidsOf are the pages just below one.
func (h *hand) kidsOf(number uint32) []uint32 {
	var out []uint32
	h.node(number, func(n *api.Node) {
		for _, e := range n.Entries {
			out = append(out, e.Page)
		}
	})
	return out
}

// great changes the entry of the key great.
func (h *hand) great(change func(e *api.Entry)) {
	h.Helper()
	for _, number := range h.tree {
		if kind, payload := h.get(number); kind == page.Leaf && bytes.Contains(payload, []byte("\x05great")) {
			h.node(number, func(n *api.Node) {
				at, _ := node.Find(*n, []byte("great"))
				change(&n.Entries[at])
			})
			return
		}
	}
	h.Fatal("no leaf has it")
}

type wrong struct {
	name   string
	change func(h *hand)
}

// wrongStates: the size, the keys, the root.
var wrongStates = []wrong{
	{"more pages than the disk", func(h *hand) { h.image = h.image[:int(h.meta.Pages-1)*api.PageSize] }},
	{"a page more, which is nowhere", func(h *hand) { h.with(func(m *api.Meta) { m.Pages++ }) }},
	{"many pages more", func(h *hand) { h.with(func(m *api.Meta) { m.Pages = 800 }) }},
	{"pages beyond the disk, which are nowhere", func(h *hand) { h.with(func(m *api.Meta) { m.Pages = api.MaxPages }) }},
	{"free pages beyond the disk", func(h *hand) {
		h.image = h.image[:int(h.meta.Pages)*api.PageSize]
		beyond := h.meta.Pages
		h.with(func(m *api.Meta) { m.Pages += 2 })
		h.lists(h.list, h.file.free[:200], append(h.file.free[200:], beyond, beyond+1))
	}},
	{"a page less than there are", func(h *hand) { h.with(func(m *api.Meta) { m.Pages-- }) }},
	{"a key more", func(h *hand) { h.with(func(m *api.Meta) { m.Keys++ }) }},
	{"a key less", func(h *hand) { h.with(func(m *api.Meta) { m.Keys-- }) }},
	{"very many keys", func(h *hand) { h.with(func(m *api.Meta) { m.Keys = api.MaxCount }) }},
	{"keys that are the same as a short number", func(h *hand) { h.with(func(m *api.Meta) { m.Keys += 1 << 32 }) }},
	{"no root", func(h *hand) { h.with(func(m *api.Meta) { m.Root, m.Keys = 0, 0 }) }},
	{"a list's page as root", func(h *hand) { h.with(func(m *api.Meta) { m.Root = h.list[1] }) }},
	{"a free page as root", func(h *hand) { h.with(func(m *api.Meta) { m.Root = h.file.free[0] }) }},
	{"a kid as root", func(h *hand) { h.with(func(m *api.Meta) { m.Root = h.kidsOf(m.Root)[0] }) }},
	{"a great value's page as root", func(h *hand) { h.with(func(m *api.Meta) { m.Root = h.first(page.Over) }) }},
	{"no list", func(h *hand) { h.with(func(m *api.Meta) { m.Free = 0 }) }},
	{"the second page of the list as the first", func(h *hand) { h.with(func(m *api.Meta) { m.Free = h.list[1] }) }},
	{"a leaf as list", func(h *hand) { h.with(func(m *api.Meta) { m.Free = h.first(page.Leaf) }) }},
	{"a free page as list", func(h *hand) { h.with(func(m *api.Meta) { m.Free = h.file.free[0] }) }},
}

// wrongTrees: what stands in its pages.
var wrongTrees = []wrong{
	{"a root of noughts", func(h *hand) { clear(h.page(h.meta.Root)) }},
	{"a bit of the root", func(h *hand) { h.page(h.meta.Root)[500] ^= 8 }},
	{"a bit of a leaf", func(h *hand) { h.page(h.first(page.Leaf))[1000] ^= 1 }},
	{"a bit of a great value", func(h *hand) { h.page(h.first(page.Over))[900] ^= 1 }},
	{"a leaf of another number", func(h *hand) {
		copy(h.page(h.first(page.Leaf)), h.page(h.meta.Root))
	}},
	{"a leaf that is of the kind of lists", func(h *hand) {
		number := h.first(page.Leaf)
		_, payload := h.get(number)
		h.set(number, page.Free, payload)
	}},
	{"a kid twice", func(h *hand) {
		kids := h.kidsOf(h.meta.Root)
		h.node(kids[1], func(n *api.Node) { n.Entries[0].Page = h.kidsOf(kids[0])[0] })
	}},
	{"a kid beyond the disk", func(h *hand) {
		h.node(h.meta.Root, func(n *api.Node) { n.Entries[0].Page = api.MaxPages - 1 })
	}},
	{"a kid that is the root", func(h *hand) {
		h.node(h.kidsOf(h.meta.Root)[0], func(n *api.Node) { n.Entries[0].Page = h.meta.Root })
	}},
	{"leaves that are not as far", func(h *hand) {
		kids := h.kidsOf(h.meta.Root)
		h.node(h.meta.Root, func(n *api.Node) { n.Entries[0].Page = h.kidsOf(kids[0])[0] })
	}},
	{"a key out of its bounds", func(h *hand) {
		h.node(h.first(page.Leaf), func(n *api.Node) { n.Entries[len(n.Entries)-1].Key = []byte("zzz") })
	}},
	{"a leaf with a key less", func(h *hand) {
		h.node(h.first(page.Leaf), func(n *api.Node) { n.Entries = n.Entries[:len(n.Entries)-1] })
	}},
	{"a great value that is longer", func(h *hand) { h.great(func(e *api.Entry) { e.Size++ }) }},
	{"a great value on a leaf", func(h *hand) { h.great(func(e *api.Entry) { e.Page = h.first(page.Leaf) }) }},
	{"a great value on the pages of another one", func(h *hand) {
		h.great(func(e *api.Entry) { e.Page, e.Size = h.greatest().Page, h.greatest().Size })
	}},
	{"a great value that is let go", func(h *hand) { h.great(func(e *api.Entry) { e.Page, e.Size, e.Value = 0, 0, []byte("1") }) }},
}

// greatest is the entry of the key greater.
func (h *hand) greatest() api.Entry {
	for _, number := range h.tree {
		kind, payload := h.get(number)
		if n, err := node.Decode(kind, payload); err == api.OK && n.Leaf {
			if at, is := node.Find(n, []byte("greater")); is {
				return n.Entries[at]
			}
		}
	}
	h.Fatal("no leaf has it")
	return api.Entry{}
}

// wrongLists: its pages, their order, what they have.
var wrongLists = []wrong{
	{"a bit of the first page", func(h *hand) { h.page(h.list[0])[30] ^= 1 }},
	{"a bit of the second page", func(h *hand) { h.page(h.list[1])[1023] ^= 1 }},
	{"a page of the kind of leaves", func(h *hand) {
		_, payload := h.get(h.list[1])
		h.set(h.list[1], page.Leaf, payload)
	}},
	{"bytes too many", func(h *hand) {
		_, payload := h.get(h.list[1])
		h.set(h.list[1], page.Free, append(payload, 0))
	}},
	{"no bytes", func(h *hand) { h.set(h.list[1], page.Free, nil) }},
	{"a page that leads to itself", func(h *hand) { h.leads(h.list[1], h.list[1]) }},
	{"a page that leads to the first one", func(h *hand) { h.leads(h.list[1], h.list[0]) }},
	{"an empty page that leads to itself", func(h *hand) {
		at := h.file.free[9]
		h.lists(append(slices.Clone(h.list), at), slices.Concat(h.file.free[:9], h.file.free[10:200]), h.file.free[200:], nil)
		if f, err := plainFile(h.image); err != api.OK || len(f.list) != 3 {
			h.Errorf("%v", err)
		}
		h.leads(at, at)
	}},
	{"a page that leads beyond the disk", func(h *hand) { h.leads(h.list[1], api.MaxPages-1) }},
	{"a page that leads to a free one", func(h *hand) { h.leads(h.list[1], h.file.free[0]) }},
	{"a page that leads to a leaf", func(h *hand) { h.leads(h.list[1], h.first(page.Leaf)) }},
	{"a page that leads to a state", func(h *hand) { h.leads(h.list[1], 1) }},
	{"parts that do not rise", func(h *hand) { h.lists(h.list, h.file.free[200:], h.file.free[:200]) }},
	{"a page in two parts", func(h *hand) { h.lists(h.list, h.file.free[:200], h.file.free[199:]) }},
	{"a page in two parts, with an empty one between", func(h *hand) {
		h.lists([]uint32{h.list[0], h.list[1], h.file.free[9]}, h.file.free[:200], nil, h.file.free[199:])
	}},
	{"a page that is nowhere", func(h *hand) { h.lists(h.list, h.file.free[:200], h.file.free[201:]) }},
	{"the last page is nowhere", func(h *hand) { h.lists(h.list, h.file.free[:200], h.file.free[200:len(h.file.free)-1]) }},
	{"a page of the list in it", func(h *hand) { h.lists(h.list, h.file.free[:200], inserted(h.file.free[200:], h.list[1])) }},
	{"a page of the tree in it", func(h *hand) { h.lists(h.list, inserted(h.file.free[:200], h.meta.Root), h.file.free[200:]) }},
	{"a page of the tree in the place of one", func(h *hand) {
		h.lists(h.list, inserted(h.file.free[1:200], h.meta.Root), h.file.free[200:])
	}},
	{"a page of the tree as its own", func(h *hand) {
		h.lists([]uint32{h.file.free[0], h.first(page.Leaf)}, h.file.free[1:200], h.file.free[200:])
	}},
	{"a page beyond the file in it", func(h *hand) { h.lists(h.list, h.file.free[:200], append(h.file.free[200:], h.meta.Pages)) }},
	{"a page beyond the disk in it", func(h *hand) { h.lists(h.list, h.file.free[:200], append(h.file.free[200:], 16383)) }},
	{"its own page beyond the file", func(h *hand) {
		h.lists([]uint32{h.list[0], h.meta.Pages}, h.file.free[:200], inserted(h.file.free[200:], h.list[1]))
	}},
}

func inserted(l []uint32, number uint32) []uint32 {
	at, _ := slices.BinarySearch(l, number)
	return slices.Insert(slices.Clone(l), at, number)
}

// TestWrongFiles: each is told as such, and nothing is written.
func TestWrongFiles(t *testing.T) {
	for _, w := range slices.Concat(wrongStates, wrongTrees, wrongLists) {
		h := handmade(t)
		if _, err := plainFile(h.image); err != api.OK {
			t.Fatalf("%v", err)
		}
		w.change(h)
		if _, err := plainFile(h.image); err != api.ErrCommitCorrupt {
			t.Errorf("%s: %v by the chapter's words", w.name, err)
		}
		d := loaded(t, h.image)
		for range 2 {
			if s, err := commit.Open(d); s != nil || err != api.ErrCommitCorrupt {
				t.Errorf("%s: %v", w.name, err)
			}
		}
		if got := d.Counts(); got.Writes != 0 || got.Syncs != 0 || !bytes.Equal(d.Image(), h.image) {
			t.Errorf("%s: something is written", w.name)
		}
	}
}

// rightFiles are such that no Apply lays down, or that are beside others.
var rightFiles = []wrong{
	{"as it is", func(*hand) {}},
	{"a disk without a page more", func(h *hand) { h.image = h.image[:int(h.meta.Pages)*api.PageSize] }},
	{"a list of short parts, some empty, on pages in no order", func(h *hand) {
		at := []uint32{h.file.free[50], h.list[1], h.file.free[3], h.list[0], h.file.free[20]}
		rest := slices.DeleteFunc(slices.Clone(h.file.free), func(number uint32) bool { return slices.Contains(at, number) })
		h.lists(at, nil, rest[:1], rest[1:200], nil, rest[200:])
	}},
	{"all that is free lists", func(h *hand) {
		at := append(slices.Clone(h.list), h.file.free...)
		slices.Reverse(at)
		h.lists(at, make([][]uint32, len(at))...)
	}},
	{"noise behind the states", func(h *hand) {
		copy(h.image[api.Sector:], mixed(api.PageSize-api.Sector, 1))
		copy(h.image[api.PageSize+api.Sector:], mixed(api.PageSize-api.Sector, 2))
	}},
	{"noise in the place of the other state", func(h *hand) {
		copy(h.image[(h.meta.Generation+1)%2*api.PageSize:], mixed(api.PageSize, 1))
	}},
	{"a newer state with a wrong bit", func(h *hand) {
		m := h.meta
		m.Generation++
		sector, _ := page.PutMeta(m)
		sector[40] ^= 1
		copy(h.image[m.Generation%2*api.PageSize:], sector)
	}},
	{"a newer state in the wrong page", func(h *hand) {
		m := h.meta
		m.Generation += 2
		sector, _ := page.PutMeta(m)
		copy(h.image[(m.Generation+1)%2*api.PageSize:], sector)
	}},
	{"an elder state that is not right", func(h *hand) {
		sector, _ := page.PutMeta(api.Meta{Generation: h.meta.Generation - 1, Pages: 700, Root: 600, Keys: 9})
		copy(h.image[(h.meta.Generation+1)%2*api.PageSize:], sector)
	}},
	{"noise on free pages and behind the file", func(h *hand) {
		for number := h.meta.Pages; number < 800; number++ {
			copy(h.page(number), mixed(api.PageSize, number))
		}
		for _, number := range h.file.free {
			copy(h.page(number), mixed(api.PageSize, number))
		}
	}},
	{"another generation", func(h *hand) { h.with(func(m *api.Meta) { m.Generation = 1 << 40 }) }},
}

// TestRightFiles: what is there is told, and can be changed.
func TestRightFiles(t *testing.T) {
	for _, w := range rightFiles {
		h := handmade(t)
		w.change(h)
		f, err := plainFile(h.image)
		if err != api.OK {
			t.Fatalf("%s: %v by the chapter's words", w.name, err)
		}
		g := &ground{TB: t, disk: loaded(t, h.image), now: f.pairs}
		g.store = opened(t, g.disk)
		g.reread()
		g.all()
		if len(g.now) != 902 {
			t.Errorf("%s: %d keys", w.name, len(g.now))
		}
		g.snap()
		g.must(put("a", "1"), del(numbered(7)), put("great", mixed(4000, 5)))
		g.all()
		tells(t, opened(t, g.disk).Snap(), g.file.meta.Generation, g.now)
	}
}

// TestNoFiles: of noughts, and of what begins as a state and is none.
func TestNoFiles(t *testing.T) {
	right, _ := page.PutMeta(api.Meta{Generation: 1, Pages: 2})
	even, _ := page.PutMeta(api.Meta{Generation: 2, Pages: 2})
	rows := []struct {
		name        string
		first, next []byte
		want        api.Errno
	}{
		{"noughts", nil, nil, api.ErrCommitNone},
		{"noise", []byte(mixed(1024, 1)), []byte(mixed(1024, 2)), api.ErrCommitNone},
		{"the mark alone, first", []byte("CMET"), nil, api.ErrCommitCorrupt},
		{"the mark alone, next", nil, []byte("CMET"), api.ErrCommitCorrupt},
		{"the mark alone, both", []byte("CMET"), []byte("CMET"), api.ErrCommitCorrupt},
		{"both in the wrong page", right, even, api.ErrCommitCorrupt},
		{"one in the wrong page", right, nil, api.ErrCommitCorrupt},
		{"a right one beside the mark", []byte("CMET"), right, api.OK},
		{"two right ones", even, right, api.OK},
	}
	for _, r := range rows {
		for _, pages := range []int{2, 3, 4, 20} {
			image := make([]byte, pages*api.PageSize)
			copy(image, r.first)
			copy(image[api.PageSize:], r.next)
			d := loaded(t, image)
			s, err := commit.Open(d)
			if err != r.want || (s == nil) != (err != api.OK) {
				t.Errorf("%s on %d pages: %v", r.name, pages, err)
			}
			if got := d.Counts(); got != (api.Counts{Reads: 2}) {
				t.Errorf("%s on %d pages: %+v", r.name, pages, got)
			}
			if s == nil {
				continue
			}
			if got := s.Space(); got.Pages != pages || got.Free != pages-2 || got.Current != 1 && got.Current != 2 {
				t.Errorf("%s on %d pages: %+v", r.name, pages, got)
			}
			want := api.OK
			if pages == 2 {
				want = api.ErrFull
			}
			applies(t, s, want, put("a", "1"))
			applies(t, s, api.OK)
		}
	}
}

// TestTheNewestCounts: also if it is not right, and the other one is.
func TestTheNewestCounts(t *testing.T) {
	g := newGround(t, 60)
	g.must(put("a", "1"))
	elder := g.file
	g.must(put("a", "2"))
	image := g.disk.Image()
	d := loaded(t, image)
	tells(t, opened(t, d).Snap(), 3, map[string]string{"a": "2"})
	clear(image[int(g.file.meta.Root)*api.PageSize:][:api.PageSize])
	if s, err := commit.Open(loaded(t, image)); s != nil || err != api.ErrCommitCorrupt {
		t.Errorf("%v", err)
	}
	clear(image[api.PageSize:][:api.Sector])
	s := opened(t, loaded(t, image))
	tells(t, s.Snap(), elder.meta.Generation, elder.pairs)
	if !maps.Equal(elder.pairs, map[string]string{"a": "1"}) {
		t.Errorf("%v", elder.pairs)
	}
}
