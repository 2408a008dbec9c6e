package cursor_test

import (
	"math/rand"
	"slices"
	"testing"

	"codicil/api"
	"codicil/cursor"
	"codicil/node"
	"codicil/page"
)

func newCursor(g *ground) *cursor.Cursor { return cursor.New(g.pool, g.root) }

// mostReads is what the first pair may take: two ways down, and its value.
const mostReads = 2*17 + 9

// refuses looks whether an answer is just that error.
func (g *ground) refuses(what string, want api.Errno, got api.Pair, is bool, err api.Errno) {
	g.Helper()
	if err != want || is || len(got.Key) > 0 || len(got.Value) > 0 {
		g.Errorf("%s: %q and %d bytes, %v, %v; not %v", what, got.Key, len(got.Value), is, err, want)
	}
}

// refusesAll looks whether all calls that read, from each of these keys, tell that error.
func (g *ground) refusesAll(want api.Errno, froms ...string) {
	g.Helper()
	for _, from := range froms {
		for _, in := range []bool{false, true} {
			got, is, err := cursor.Next(g.pool, g.root, []byte(from), in)
			g.refuses("Next", want, got, is, err)
			got, is, err = cursor.Prev(g.pool, g.root, []byte(from), in)
			g.refuses("Prev", want, got, is, err)
		}
		got, is, err := newCursor(g).Seek([]byte(from))
		g.refuses("Seek", want, got, is, err)
	}
	c := newCursor(g)
	for range 2 {
		got, is, err := c.Next()
		g.refuses("Next of a cursor", want, got, is, err)
	}
	c.End()
	for range 2 {
		got, is, err := c.Prev()
		g.refuses("Prev of a cursor", want, got, is, err)
	}
}

// TestRootsThatAreNone: an error of the read is the answer as it is; what was read and is no node is ErrTreeForm.
func TestRootsThatAreNone(t *testing.T) {
	for root, want := range map[uint32]api.Errno{
		2: api.ErrPoolForm, 11: api.ErrPoolForm, 59: api.ErrPoolForm,
		60: api.ErrRange, 61: api.ErrRange, 16383: api.ErrRange, 16384: api.ErrRange, 1 << 16: api.ErrRange, 1<<16 + 10: api.ErrRange, 1<<32 - 1: api.ErrRange,
		40: api.ErrTreeForm, 42: api.ErrTreeForm, 50: api.ErrTreeForm, 51: api.ErrTreeForm, 52: api.ErrTreeForm, 53: api.ErrTreeForm, 54: api.ErrTreeForm,
	} {
		made := orchard(sheet{51, page.Free, make([]byte, 8)}, sheet{52, page.Leaf, []byte{0, 0}}, sheet{53, page.Branch, []byte{0, 0}}, sheet{54, page.Leaf, []byte("\x02\x00\x01l\x00\x01h\x00")})
		for _, most := range []int{1, 9} {
			d := loaded(t, 60, made.sheets...)
			g := &ground{t, d, newPool(t, d, most), root, nil}
			g.refusesAll(want, "", "a", "m", "zz")
		}
	}
}

// wrong are trees that are none, each by one thing.
func wrong() map[string]grown {
	return map[string]grown{
		"the root is of a great value":       orchard(part(10, 0, 70)),
		"a branch is of the list":            orchard(sheet{20, page.Free, make([]byte, 8)}),
		"a branch is of a great value":       orchard(part(30, 0, 70)),
		"a leaf is of a great value":         orchard(part(33, 0, 70)),
		"a leaf has a branch's bytes":        orchard(sheet{22, page.Leaf, branch(22, kid("", 5)).payload}),
		"a leaf has no keys":                 orchard(sheet{23, page.Leaf, []byte{0, 0}}),
		"a leaf's keys fall":                 orchard(sheet{23, page.Leaf, []byte("\x02\x00\x01l\x00\x01h\x00")}),
		"a branch has one kid twice":         orchard(sheet{30, page.Branch, []byte("\x02\x00\x00\x1f\x00\x00\x00\x01p\x1f\x00\x00\x00")}),
		"a branch's first key is not empty":  orchard(sheet{30, page.Branch, []byte("\x01\x00\x01m\x1f\x00\x00\x00")}),
		"a kid is a page of noughts":         orchard(branch(30, kid("", 31), kid("p", 32), kid("t", 5))),
		"a kid is beyond the disk":           orchard(branch(30, kid("", 31), kid("p", 60), kid("t", 33))),
		"a leaf stands beside branches":      orchard(branch(10, kid("", 20), kid("m", 30), kid("zz", 5)), leaf(5, small("zz", ""))),
		"a branch stands beside leaves":      orchard(branch(30, kid("", 31), kid("p", 32), kid("t", 5)), branch(5, kid("", 33))),
		"a key is its next entry's":          orchard(leaf(21, small("a", ""), small("d", ""))),
		"a key is above its next entry's":    orchard(leaf(22, small("d", ""), small("hh", ""))),
		"a key is below its entry's":         orchard(leaf(22, small("c\xff", ""), small("g", ""))),
		"a last key is its branch's next":    orchard(leaf(23, small("h", ""), small("m", ""))),
		"a last key is beyond its branch":    orchard(leaf(23, small("h", ""), small("n", ""))),
		"a first key is ahead of its branch": orchard(leaf(31, small("l\xff", ""), small("o", ""))),
		"all keys are ahead of their branch": orchard(leaf(31, small("b", ""))),
		"a kid's keys are all beyond it":     orchard(leaf(21, small("x", ""))),
		"two kids stand the wrong way":       orchard(branch(30, kid("", 32), kid("p", 31), kid("t", 33))),
		"two branches stand the wrong way":   orchard(branch(10, kid("", 30), kid("m", 20))),
		"a branch's key is beyond it":        orchard(branch(20, kid("", 21), kid("d", 22), kid("h", 23), kid("n", 5)), leaf(5, small("n", ""))),
		"a branch's key is its own":          orchard(branch(30, kid("", 31), kid("m", 32), kid("t", 33))),
		"the root is its own kid":            orchard(branch(10, kid("", 20), kid("m", 10))),
		"the root is a branch's kid":         orchard(branch(30, kid("", 10))),
		"the root is its own only kid":       orchard(branch(10, kid("", 10))),
		"a branch is its own kid":            orchard(branch(30, kid("", 30), kid("p", 32), kid("t", 33))),
		"two branches have one only kid":     orchard(branch(20, kid("", 5)), branch(30, kid("", 5)), leaf(5, small("n", ""))),
		"a great value is a leaf":            orchard(leaf(33, great("t", 31, 65))),
		"a great value is its own leaf":      orchard(leaf(33, great("t", 33, 65))),
		"a great value is noughts":           orchard(leaf(33, great("t", 5, 65))),
		"a great value is beyond the disk":   orchard(leaf(33, great("t", 60, 65))),
		"a great value is one byte shorter":  orchard(part(50, 0, 64)),
		"a great value goes on":              orchard(part(50, 51, 65)),
		"a great value ends too early":       orchard(part(41, 0, 1004)),
		"a great value goes round":           orchard(part(41, 40, 1004)),
		"a great value of another size":      orchard(leaf(22, great("e", 40, 3001))),
	}
}

// answers looks whether an answer is one that may be, of a tree that may be wrong: a key of that side, or none, or an error that says so.
func (g *ground) answers(what string, got api.Pair, is bool, err api.Errno, right func(key string) bool) {
	g.Helper()
	if err == api.OK && is && right(string(got.Key)) {
		return
	}
	if is || len(got.Key) > 0 || len(got.Value) > 0 || !slices.Contains([]api.Errno{api.OK, api.ErrTreeForm, api.ErrPoolForm, api.ErrRange}, err) {
		g.Errorf("%s: %q and %d bytes, %v, %v", what, got.Key, len(got.Value), is, err)
	}
}

// meets asks both calls of a root that may be wrong, with nothing at hand; it ends behind few reads.
func (g *ground) meets(what, from string, in bool) {
	g.Helper()
	before := g.disk.Counts().Reads
	got, is, err := cursor.Next(newPool(g, g.disk, 1), g.root, []byte(from), in)
	g.answers(what+": Next", got, is, err, func(key string) bool { return key > from || in && key == from })
	middle := g.disk.Counts().Reads
	got, is, err = cursor.Prev(newPool(g, g.disk, 1), g.root, []byte(from), in)
	g.answers(what+": Prev", got, is, err, func(key string) bool { return key < from || in && (key == from || from == "") })
	if after := g.disk.Counts().Reads; middle-before > mostReads || after-middle > mostReads {
		g.Errorf("%s: %d and %d reads", what, middle-before, after-middle)
	}
}

// roams lets one cursor go up and down a tree that may be wrong: what it tells rises, and falls, and comes to an end.
func (g *ground) roams(what string, keys int) {
	g.Helper()
	c := newCursor(g)
	last := ""
	for step := 0; ; step++ {
		got, is, err := c.Next()
		g.answers(what+": Next of a cursor", got, is, err, func(key string) bool { return key > last })
		if last = string(got.Key); !is {
			break
		}
		if step > keys {
			g.Fatalf("%s: Next does not end", what)
		}
	}
	c.End()
	last = "\xff\xff"
	for step := 0; ; step++ {
		got, is, err := c.Prev()
		g.answers(what+": Prev of a cursor", got, is, err, func(key string) bool { return key < last || step == 0 })
		if last = string(got.Key); !is {
			break
		}
		if step > keys {
			g.Fatalf("%s: Prev does not end", what)
		}
	}
}

func TestTreesThatAreNone(t *testing.T) {
	for name, made := range wrong() {
		d := loaded(t, made.pages, made.sheets...)
		g := &ground{t, d, newPool(t, d, 3), made.root, made.list}
		for _, from := range g.froms() {
			g.meets(name, from, false)
			g.meets(name, from, true)
		}
		g.roams(name, 100)
	}
}

// TestTheWayToWhatIsWrong: where the way to a key is as it must be, it is told; where it is not, that is the answer.
func TestTheWayToWhatIsWrong(t *testing.T) {
	for _, x := range []struct {
		made  grown
		next  string // Next from here is refused, with the key and without
		right string // Next from here goes well
		want  api.Errno
	}{
		{orchard(sheet{23, page.Leaf, []byte{0, 0}}), "h", "m", api.ErrTreeForm},
		{orchard(part(33, 0, 70)), "t", "o", api.ErrTreeForm},
		{orchard(sheet{20, page.Free, make([]byte, 8)}), "b", "n", api.ErrTreeForm},
		{orchard(branch(30, kid("", 31), kid("p", 32), kid("t", 5))), "t", "o", api.ErrPoolForm},
		{orchard(branch(30, kid("", 31), kid("p", 60), kid("t", 33))), "p", "t", api.ErrRange},
		{orchard(part(50, 0, 64)), "pp", "o", api.ErrTreeForm},
		{orchard(leaf(33, great("t", 5, 65), small("z", "0"))), "s", "x", api.ErrPoolForm},
		{orchard(leaf(33, great("t", 60, 65), small("z", "0"))), "s", "x", api.ErrRange},
		{orchard(leaf(33, great("t", 31, 65), small("z", "0"))), "s", "x", api.ErrTreeForm},
		{orchard(leaf(31, small("b", ""))), "m", "q", api.ErrTreeForm},
		{orchard(leaf(23, small("h", ""), small("m", ""))), "h", "a", api.ErrTreeForm},
		{orchard(leaf(22, small("c\xff", ""), small("g", ""))), "c", "h", api.ErrTreeForm},
		{orchard(branch(30, kid("", 31), kid("b", 32), kid("t", 33))), "n", "a", api.ErrTreeForm},
		{orchard(branch(20, kid("", 10))), "a", "m", api.ErrTreeForm},
	} {
		d := loaded(t, 60, x.made.sheets...)
		g := &ground{t, d, newPool(t, d, 5), 10, x.made.list}
		got, is, err := cursor.Next(g.pool, 10, []byte(x.next), false)
		g.refuses("Next of "+x.next, x.want, got, is, err)
		c := newCursor(g)
		got, is, err = c.Seek([]byte(x.next + "\x00"))
		g.refuses("Seek of "+x.next, x.want, got, is, err)
		want, _ := g.plainNext(x.right, true)
		if got, is, err := c.Seek([]byte(x.right)); !same(got, is, err, want, true) {
			t.Errorf("Seek(%q): %q, %v, %v", x.right, got.Key, is, err)
		}
	}
}

// TestPagesThatLeadRound: pages that lead to one another ever again end all the same.
func TestPagesThatLeadRound(t *testing.T) {
	for _, ring := range []uint32{1, 2, 7, 16, 17, 18, 40} {
		var sheets []sheet
		for i := range ring {
			sheets = append(sheets, branch(10+i, kid("", 10+(i+1)%ring)))
		}
		d := loaded(t, 60, sheets...)
		g := &ground{t, d, newPool(t, d, 9), 10, nil}
		g.refusesAll(api.ErrTreeForm, "", "a", "zz")
		g.meets("a ring", "a", true)
	}
}

// TestPagesThatLeadEverywhere: branches that all have one another as kids would be gone through ever so long.
func TestPagesThatLeadEverywhere(t *testing.T) {
	for seed := range int64(200) {
		r := rand.New(rand.NewSource(seed))
		var sheets []sheet
		for number := range uint32(50) {
			var l []api.Entry
			for i, to := range r.Perm(50)[:2+r.Intn(40)] {
				l = append(l, kid(longKey(i * r.Intn(2))[:4+r.Intn(3)]+string([]byte{byte(i)}), 5+uint32(to)))
			}
			slices.SortFunc(l, func(a, b api.Entry) int { return slices.Compare(a.Key, b.Key) })
			l = slices.CompactFunc(l, func(a, b api.Entry) bool { return slices.Equal(a.Key, b.Key) })
			l[0].Key = nil
			if r.Intn(5) == 0 {
				sheets = append(sheets, leaf(5+number, small(mixed(3, r.Uint32()), "")))
			} else {
				sheets = append(sheets, branch(5+number, l...))
			}
		}
		d := loaded(t, 60, sheets...)
		for root := uint32(5); root < 15; root++ {
			g := &ground{t, d, newPool(t, d, 9), root, nil}
			for _, from := range []string{"", "0000", "000000", "00000020", "zz", "\xff"} {
				g.meets("a thicket", from, r.Intn(2) == 0)
			}
			g.roams("a thicket", 1000)
		}
	}
}

// spoilt is a page of a tree with something else in it: mostly it can still be read, but leads elsewhere, or has other keys.
func spoilt(r *rand.Rand, s sheet, all []sheet) sheet {
	other := all[r.Intn(len(all))]
	n, err := node.Decode(s.kind, s.payload)
	if err != api.OK {
		return sheet{s.number, []uint8{page.Over, other.kind}[r.Intn(2)], [][]byte{other.payload, s.payload[:len(s.payload)-1]}[r.Intn(2)]}
	}
	at := r.Intn(len(n.Entries))
	switch r.Intn(6) {
	case 0:
		n.Entries[at].Key = []byte(mixed(1+r.Intn(3), r.Uint32()))
	case 1:
		n.Entries[at].Page = other.number
	case 2:
		n.Entries[at].Page, n.Entries[at].Size, n.Entries[at].Value = other.number, uint32(65+r.Intn(3000)), nil
	case 3:
		n.Entries = slices.Delete(n.Entries, at, at+1)
	case 4:
		return sheet{s.number, other.kind, other.payload}
	case 5:
		n.Entries[0].Page = s.number
	}
	b, err := node.Encode(n)
	if err != api.OK {
		return sheet{s.number, uint8(1 + r.Intn(4)), s.payload}
	}
	return sheet{s.number, s.kind, b}
}

func TestTreesWithOtherPagesInThem(t *testing.T) {
	for seed := range int64(100) {
		r := rand.New(rand.NewSource(seed + 1000))
		made := grow(r, 300)
		for range 1 + r.Intn(3) {
			at := r.Intn(len(made.sheets))
			made.sheets[at] = spoilt(r, made.sheets[at], made.sheets)
		}
		d := loaded(t, 300, made.sheets...)
		g := &ground{t, d, newPool(t, d, 1+r.Intn(40)), made.root, made.list}
		for _, from := range g.froms() {
			g.meets("a spoilt tree", from, r.Intn(2) == 0)
		}
		g.roams("a spoilt tree", 1000)
	}
}
