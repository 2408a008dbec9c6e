package tree_test

import (
	"math/rand"
	"slices"
	"strings"
	"testing"

	"codicil/api"
	"codicil/page"
	"codicil/tree"
)

// orchard is a right tree of three levels: the root 10; the branches 20 and 30; the leaves 21 to 23 and 31 to 33; great values of e (on 40, 41, 42) and q (on 50).
func orchard() []sheet {
	return slices.Concat([]sheet{
		branch(10, kid("", 20), kid("m", 30)),
		branch(20, kid("", 21), kid("d", 22), kid("h", 23)),
		branch(30, kid("", 31), kid("p", 32), kid("t", 33)),
		leaf(21, small("a", "1"), small("c", "2")),
		leaf(22, small("d", "3"), great("e", 40, 3000), small("g", "")),
		leaf(23, small("h", "4"), small("l", "5")),
		leaf(31, small("m", "6"), small("o", "7")),
		leaf(32, small("p", "8"), great("q", 50, 65)),
		leaf(33, small("t", "9"), small("z", "0")),
	}, chain(mixed(3000, 1), 40, 41, 42), chain(mixed(65, 2), 50))
}

// with is the orchard with other pages in the place of its own, or beside them.
func with(others ...sheet) []sheet { return append(orchard(), others...) }

func TestWalkOfARightTree(t *testing.T) {
	g := byHand(t, 60, 10, orchard()...)
	pages, keys, err := tree.Walk(g.pool, 10)
	if want := []uint32{10, 20, 21, 22, 23, 30, 31, 32, 33, 40, 41, 42, 50}; !slices.Equal(pages, want) || keys != 13 || err != api.OK {
		t.Errorf("Walk(10): %d, %d keys, %v", pages, keys, err)
	}
	for root, want := range map[uint32][]uint32{20: {20, 21, 22, 23, 40, 41, 42}, 30: {30, 31, 32, 33, 50}, 22: {22, 40, 41, 42}, 33: {33}} {
		if pages, _, err := tree.Walk(g.pool, root); !slices.Equal(pages, want) || err != api.OK {
			t.Errorf("Walk(%d): %d, %v", root, pages, err)
		}
		g.trees[root] = g.again(root)
	}
	g.allStand()
}

// TestBounds: keys at the very edges of their bounds are right.
func TestBounds(t *testing.T) {
	for _, others := range [][]sheet{
		{leaf(21, small("\x00", "")), leaf(22, small("d", ""))},
		{leaf(21, small("c\xff\xff", ""))},
		{leaf(23, small("lzzz", ""))},
		{leaf(31, small("m", ""))},
		{leaf(31, small("o\xff", ""))},
		{leaf(33, small("t", ""), small(strings.Repeat("\xff", 160), ""))},
		{branch(20, kid("", 21), kid("c\x00", 22), kid("gg", 23))},
		{branch(30, kid("", 31), kid("o\x00", 32), kid("q\x00", 33))},
		{branch(10, kid("", 20), kid("l\x00", 30))},
		{leaf(22, great("e", 41, 1996), small("g", "")), leaf(21, great("a", 43, 70)), part(43, 0, 70)},
	} {
		g := byHand(t, 60, 10, with(others...)...)
		g.stands(10)
		g.edit(10, put("f", "x"), del("a"))
	}
}

// wrong are trees that are none, each by one thing.
func wrong() map[string][]sheet {
	return map[string][]sheet{
		"the root is of a great value":       with(part(10, 0, 70)),
		"the root is of the list":            with(sheet{10, page.Free, make([]byte, 8)}),
		"the root has no node":               with(sheet{10, page.Branch, nil}),
		"the root has a leaf's bytes":        with(sheet{10, page.Branch, leaf(10, small("a", "1")).payload}),
		"a branch is of the list":            with(sheet{20, page.Free, make([]byte, 8)}),
		"a branch is of a great value":       with(part(30, 0, 70)),
		"a leaf is of a great value":         with(part(33, 0, 70)),
		"a leaf is of the list":              with(sheet{21, page.Free, make([]byte, 8)}),
		"a leaf has a branch's bytes":        with(sheet{22, page.Leaf, branch(22, kid("", 5)).payload}),
		"a leaf has no keys":                 with(sheet{23, page.Leaf, []byte{0, 0}}),
		"a leaf's keys fall":                 with(sheet{23, page.Leaf, []byte("\x02\x00\x01l\x00\x01h\x00")}),
		"a leaf has a byte more":             with(sheet{23, page.Leaf, append(leaf(23, small("h", "")).payload, 0)}),
		"a branch has one kid twice":         with(sheet{30, page.Branch, []byte("\x02\x00\x00\x1f\x00\x00\x00\x01p\x1f\x00\x00\x00")}),
		"a branch's first key is not empty":  with(sheet{30, page.Branch, []byte("\x01\x00\x01m\x1f\x00\x00\x00")}),
		"a kid is page 1":                    with(sheet{30, page.Branch, []byte("\x01\x00\x00\x01\x00\x00\x00")}, leaf(1, small("n", ""))),
		"a kid is a page of noughts":         with(branch(30, kid("", 31), kid("p", 32), kid("t", 5))),
		"a kid is beyond the disk":           with(branch(30, kid("", 31), kid("p", 60), kid("t", 33))),
		"a kid is far beyond the disk":       with(branch(20, kid("", 16383), kid("d", 22), kid("h", 23))),
		"a leaf stands beside branches":      with(branch(10, kid("", 20), kid("m", 30), kid("zz", 5)), leaf(5, small("zz", ""))),
		"a leaf stands ahead of branches":    with(branch(10, kid("", 5), kid("a", 20), kid("m", 30)), leaf(5, small("A", ""))),
		"a branch stands beside leaves":      with(branch(30, kid("", 31), kid("p", 32), kid("t", 5)), branch(5, kid("", 33))),
		"a branch stands ahead of leaves":    with(branch(20, kid("", 5), kid("d", 22), kid("h", 23)), branch(5, kid("", 21))),
		"a key is its next entry's":          with(leaf(21, small("a", ""), small("d", ""))),
		"a key is above its next entry's":    with(leaf(22, small("d", ""), small("hh", ""))),
		"a key is below its entry's":         with(leaf(22, small("c\xff", ""), small("g", ""))),
		"a last key is its branch's next":    with(leaf(23, small("h", ""), small("m", ""))),
		"a last key is beyond its branch":    with(leaf(23, small("h", ""), small("n", ""))),
		"a first key is ahead of its branch": with(leaf(31, small("l\xff", ""), small("o", ""))),
		"all keys are ahead of their branch": with(leaf(31, small("b", ""))),
		"a kid's keys are all beyond it":     with(leaf(21, small("x", ""))),
		"two kids stand the wrong way":       with(branch(30, kid("", 32), kid("p", 31), kid("t", 33))),
		"two branches stand the wrong way":   with(branch(10, kid("", 30), kid("m", 20))),
		"a branch's key is beyond it":        with(branch(20, kid("", 21), kid("d", 22), kid("h", 23), kid("n", 5)), leaf(5, small("n", ""))),
		"a branch's key is its next":         with(branch(20, kid("", 21), kid("d", 22), kid("m", 23))),
		"a branch's key is ahead of it":      with(branch(30, kid("", 31), kid("b", 32), kid("t", 33))),
		"a branch's key is its own":          with(branch(30, kid("", 31), kid("m", 32), kid("t", 33))),
		"the root is its own kid":            with(branch(10, kid("", 20), kid("m", 10))),
		"the root is a branch's kid":         with(branch(30, kid("", 10))),
		"the root is its own only kid":       with(branch(10, kid("", 10))),
		"a branch is its own kid":            with(branch(30, kid("", 30), kid("p", 32), kid("t", 33))),
		"two branches have one kid":          with(branch(30, kid("", 31), kid("p", 32), kid("t", 21))),
		"two branches have one only kid":     with(branch(20, kid("", 5)), branch(30, kid("", 5)), leaf(5, small("n", ""))),
		"a branch is its brother's kid":      with(branch(20, kid("", 30)), branch(30, kid("", 31))),
		"two keys have one great value":      with(leaf(21, great("a", 50, 65))),
		"a leaf has one great value twice":   with(leaf(33, great("t", 41, 1996), great("z", 41, 1996)), leaf(22, small("d", ""))),
		"a great value is a part of another": with(leaf(33, great("t", 41, 1996))),
		"two great values have one end":      with(leaf(33, great("t", 5, 1996)), part(5, 42, 1004)),
		"a great value is a leaf":            with(leaf(33, great("t", 31, 65))),
		"a great value is its own leaf":      with(leaf(33, great("t", 33, 65))),
		"a great value is a branch":          with(leaf(33, great("t", 10, 65))),
		"a great value is of the list":       with(sheet{50, page.Free, make([]byte, 69)}),
		"a great value is noughts":           with(leaf(33, great("t", 5, 65))),
		"a great value is beyond the disk":   with(leaf(33, great("t", 60, 65))),
		"a great value is one byte shorter":  with(part(50, 0, 64)),
		"a great value is one byte longer":   with(part(50, 0, 66)),
		"a great value goes on":              with(part(50, 51, 65)),
		"a great value ends too early":       with(part(41, 0, 1004)),
		"a great value's part is short":      with(part(41, 42, 1003)),
		"a great value leads to a leaf":      with(part(41, 31, 1004)),
		"a great value leads to noughts":     with(part(41, 5, 1004)),
		"a great value leads beyond":         with(part(41, 60, 1004)),
		"a great value leads to page 1":      with(part(41, 1, 1004), part(1, 0, 992)),
		"a great value goes round":           with(part(41, 40, 1004)),
		"a great value's page leads to it":   with(part(41, 41, 1004)),
		"a great value of another size":      with(leaf(22, great("e", 40, 3001))),
		"a great value of one page more":     with(leaf(22, great("e", 40, 4000))),
		"a great value of one page fewer":    with(leaf(22, great("e", 40, 2000))),
	}
}

func TestWalkOfNoRightTree(t *testing.T) {
	for name, sheets := range wrong() {
		for _, most := range []int{1, 3, 60} {
			p := newPool(t, loaded(t, 60, sheets...), most)
			if _, right := plainWalk(p, 10); right {
				t.Errorf("%s: the plain walk takes it", name)
			}
			for range 2 {
				if pages, keys, err := tree.Walk(p, 10); err != api.ErrTreeForm || len(pages) != 0 || keys != 0 {
					t.Errorf("%s: Walk: %d, %d keys, %v", name, pages, keys, err)
				}
			}
		}
	}
}

// TestTornPages: each page of the tree in turn is noughts, is another page's, or has one bit changed.
func TestTornPages(t *testing.T) {
	image := loaded(t, 60, orchard()...).Image()
	for _, number := range []uint32{10, 20, 21, 22, 23, 30, 31, 32, 33, 40, 41, 42, 50} {
		for _, tear := range []func(b []byte){
			func(b []byte) { clear(b) },
			func(b []byte) { copy(b, image[1024*((int(number)+1)%60):]) },
			func(b []byte) { b[5] ^= 1 },
			func(b []byte) { b[700] ^= 128 },
			func(b []byte) { clear(b[:128]) },
		} {
			g := byHand(t, 60, 10, orchard()...)
			torn := slices.Clone(image[1024*number:][:1024])
			tear(torn)
			g.disk.Write(int(number), torn)
			g.pool = newPool(t, g.disk, 9)
			refusesWalk(t, g.pool, 10, api.ErrTreeForm)
			g.disk.Write(int(number), image[1024*number:][:1024])
			g.walks(10, g.trees[10])
		}
	}
}

func TestRootsThatAreNone(t *testing.T) {
	g := byHand(t, 60, 10, with(leaf(1, small("a", "1")))...)
	for _, root := range []uint32{2, 11, 40, 42, 50, 59, 60, 61, 16383, 16384, 16385, 1 << 16, 1<<16 + 10, greatest} {
		refusesWalk(t, g.pool, root, api.ErrTreeForm)
		for _, key := range []string{"", "a", "m", "zz"} {
			refusesGet(t, g.pool, root, key, api.ErrTreeForm)
		}
		refusesEdit(t, g.pool, root, api.ErrTreeForm, put("a", "2"))
		refusesEdit(t, g.pool, root, api.ErrTreeForm, put("a", mixed(9000, 3)[:3000]), put("b", "1"))
		refusesEdit(t, g.pool, root, api.ErrTreeForm, del("a"))
		refusesEdit(t, g.pool, root, api.ErrKeyLong, del(""))
	}
	g.stands(10)
}

// answersWrong looks whether Get and Edit, and Write of what Edit drafts, answer what they may of a root of no right tree.
func answersWrong(t *testing.T, name string, sheets []sheet, r *rand.Rand) {
	t.Helper()
	d := loaded(t, 200, sheets...)
	p := newPool(t, d, 9)
	for _, key := range []string{"", "a", "c", "d", "e", "h", "l", "m", "n", "o", "p", "q", "t", "z", "zz", "\xff"} {
		value, is, err := tree.Get(p, 10, []byte(key))
		if err != api.OK && err != api.ErrTreeForm || !is && len(value) > 0 || err != api.OK && is {
			t.Errorf("%s: Get(%q): %d bytes, %v, %v", name, key, len(value), is, err)
		}
	}
	for range 12 {
		var l []api.Change
		for range 1 + r.Intn(40) {
			l = append(l, anyChange(r, string([]byte{byte('a' + r.Intn(26))})+strings.Repeat("x", r.Intn(3)*r.Intn(60))))
		}
		draft, err := tree.Edit(p, 10, l)
		if err != api.OK {
			if draft != nil || err != api.ErrTreeForm {
				t.Errorf("%s: Edit: %v, %v", name, draft, err)
			}
			continue
		}
		draft.Gone()
		draft.More()
		var at []uint32
		for number := range uint32(draft.Need()) {
			at = append(at, 70+number)
		}
		before := d.Counts().Writes
		root, err := draft.Write(p, at)
		if writes := d.Counts().Writes - before; err == api.OK && writes != len(at) || err != api.OK && (err != api.ErrTreeForm || root != 0 || writes != 0) {
			t.Errorf("%s: Write: %d, %v, %d writes of %d", name, root, err, writes, len(at))
		}
	}
}

func TestGetAndEditOfNoRightTree(t *testing.T) {
	r := rand.New(rand.NewSource(5))
	for name, sheets := range wrong() {
		answersWrong(t, name, sheets, r)
	}
}

// TestGetOfNoRightTree: where the way to a key is as it must be, its value is told; where it is not, ErrTreeForm.
func TestGetOfNoRightTree(t *testing.T) {
	p := newPool(t, loaded(t, 60, with(part(33, 0, 70), branch(20, kid("", 10)), part(50, 0, 64))...), 9)
	for key, value := range map[string]string{"m": "6", "o": "7", "p": "8"} {
		if got, is, err := tree.Get(p, 10, []byte(key)); string(got) != value || !is || err != api.OK {
			t.Errorf("Get(%q): %q, %v, %v", key, got, is, err)
		}
	}
	for _, key := range []string{"a", "c", "e", "l", "t", "z", "q", ""} {
		refusesGet(t, p, 10, key, api.ErrTreeForm)
	}
}
