package node_test

import (
	"bytes"
	"fmt"
	"slices"
	"strings"
	"testing"

	"codicil/api"
	"codicil/node"
)

func leaf(l ...api.Entry) api.Node   { return api.Node{Leaf: true, Entries: l} }
func branch(l ...api.Entry) api.Node { return api.Node{Entries: l} }

func small(key, value string) api.Entry {
	return api.Entry{Key: []byte(key), Value: []byte(value)}
}

func great(key string, page, size uint32) api.Entry {
	return api.Entry{Key: []byte(key), Page: page, Size: size}
}

func kid(key string, page uint32) api.Entry { return api.Entry{Key: []byte(key), Page: page} }

// long is a text of so many bytes.
func long(length int) string { return strings.Repeat("k", length) }

func tell(n api.Node) string {
	out := fmt.Sprintf("leaf %v:", n.Leaf)
	for _, e := range n.Entries {
		out += fmt.Sprintf(" %q=%q@%d+%d", e.Key, e.Value, e.Page, e.Size)
	}
	return out
}

// same takes a list that is nil and one that is empty for the same.

func same(a, b api.Node) bool {
	return a.Leaf == b.Leaf && slices.EqualFunc(a.Entries, b.Entries, func(x, y api.Entry) bool {
		return bytes.Equal(x.Key, y.Key) && bytes.Equal(x.Value, y.Value) && x.Page == y.Page && x.Size == y.Size
	})
}

func isNode(t *testing.T, what string, got, want api.Node) {
	t.Helper()
	if !same(got, want) {
		t.Errorf("%s: %s, not %s", what, tell(got), tell(want))
	}
}

// checks holds Check against what is wanted, and Encode, whose error it is.
func checks(t *testing.T, what string, n api.Node, want api.Errno) {
	t.Helper()
	if err := node.Check(n); err != want {
		t.Errorf("%s: Check tells %v, not %v", what, err, want)
	}
	b, err := node.Encode(n)
	if err != want || want != api.OK && len(b) != 0 {
		t.Errorf("%s: Encode tells %d bytes and %v, not %v", what, len(b), err, want)
	}
	if want == api.OK && string(b) != string(laid(n)) {
		t.Errorf("%s: Encode tells %x, not %x", what, b, laid(n))
	}
}

// drawn draws numbers that are the same in each run.
type drawn uint64

func (d *drawn) below(n int) int {
	*d = *d*6364136223846793005 + 1442695040888963407
	return int(uint64(*d) >> 33 % uint64(n))
}

func (d *drawn) text(length int) string {
	b := make([]byte, length)
	for at := range b {
		b[at] = byte(d.below(256))
	}
	return string(b)
}

func (d *drawn) entry(leaf bool) api.Entry {
	key := d.text(1 + d.below(1+d.below(160)))
	switch {
	case !leaf:
		return kid(key, uint32(2+d.below(16382)))
	case d.below(4) == 0:
		return great(key, uint32(2+d.below(16382)), uint32(65+d.below(8128)))
	default:
		return small(key, d.text(d.below(65)))
	}
}

// node draws a node whose keys rise, of so many entries at most.
func (d *drawn) node(leaf bool, most int) api.Node {
	by := map[string]api.Entry{}
	for range most {
		e := d.entry(leaf)
		by[string(e.Key)] = e
	}
	n := api.Node{Leaf: leaf}
	for _, e := range by {
		n.Entries = append(n.Entries, e)
	}
	slices.SortFunc(n.Entries, func(a, b api.Entry) int { return strings.Compare(string(a.Key), string(b.Key)) })
	if !leaf && len(n.Entries) > 0 {
		n.Entries[0].Key = nil
	}
	return n
}

// mayBe is the chapter's words, entry by entry.
func mayBe(n api.Node) bool {
	for at, e := range n.Entries {
		key, empty := string(e.Key), !n.Leaf && at == 0
		page := e.Page >= 2 && e.Page < 16384
		switch {
		case empty != (key == ""), len(key) > 160:
			return false
		case at > 0 && string(n.Entries[at-1].Key) >= key:
			return false
		case n.Leaf && e.Page == 0 && e.Size == 0 && len(e.Value) <= 64:
		case n.Leaf && page && len(e.Value) == 0 && e.Size >= 65 && e.Size <= 8192:
		case !n.Leaf && page && len(e.Value) == 0 && e.Size == 0:
		default:
			return false
		}
		for _, other := range n.Entries[:at] {
			if !n.Leaf && other.Page == e.Page {
				return false
			}
		}
	}
	return len(n.Entries) > 0
}

// wanted is what Check must tell.
func wanted(n api.Node) api.Errno {
	if !mayBe(n) {
		return api.ErrNodeForm
	}
	if len(laid(n)) > 1008 {
		return api.ErrNodeLong
	}
	return api.OK
}

func TestExamples(t *testing.T) {
	one := leaf(small("a", "1"))
	two := leaf(small("a", "1"), great("b", 9, 100))
	kids := branch(kid("", 5), kid("m", 6))
	if node.Size(one) != 6 || node.Size(kids) != 13 {
		t.Error("Size tells", node.Size(one), node.Size(kids))
	}
	if b, err := node.Encode(one); err != api.OK || string(b) != "\x01\x00\x01a\x011" {
		t.Errorf("Encode tells %x and %v", b, err)
	}
	if b, err := node.Encode(two); err != api.OK || string(b) != "\x02\x00\x01a\x011\x01b\xff\x64\x00\x00\x00\x09\x00\x00\x00" {
		t.Errorf("Encode tells %x and %v", b, err)
	}
	finds(t, kids, "a", 0, true)
	finds(t, kids, "m", 1, true)
	finds(t, kids, "z", 1, true)
	halves(t, leaf(small("a", "1"), small("b", "1"), small("c", "1")), leaf(small("a", "1"), small("b", "1")), leaf(small("c", "1")), "c")
	checks(t, "a leaf b, a", leaf(small("b", "1"), small("a", "1")), api.ErrNodeForm)
	checks(t, "a leaf of no entries", leaf(), api.ErrNodeForm)
}

func TestSize(t *testing.T) {
	for _, c := range []struct {
		n    api.Node
		want int
	}{
		{leaf(), 2},
		{branch(), 2},
		{leaf(small("", "")), 4},
		{leaf(small("abc", "")), 7},
		{leaf(small("abc", "12345")), 12},
		{leaf(small("a", long(300))), 305},
		{leaf(small(long(300), "1")), 305},
		{leaf(great("abc", 9, 100)), 15},
		{leaf(great("abc", 1, 0)), 15},
		{leaf(great("abc", 1<<31, 1<<31)), 15},
		{leaf(great("abc", 0, 100)), 7},
		{leaf(api.Entry{Key: []byte("abc"), Value: []byte("12345"), Page: 3}), 15},
		{leaf(api.Entry{Key: []byte("abc"), Value: []byte("12345"), Size: 3}), 12},
		{leaf(small("b", "1"), small("a", "2")), 10},
		{leaf(small("a", "1"), great("b", 9, 100)), 17},
		{branch(kid("", 5)), 7},
		{branch(kid("", 0)), 7},
		{branch(kid("", 5), kid("m", 6)), 13},
		{branch(kid("abc", 5), kid("ab", 5)), 17},
		{branch(api.Entry{Key: []byte("abc"), Value: []byte("12345"), Page: 3, Size: 70}), 10},
	} {
		if got := node.Size(c.n); got != c.want {
			t.Errorf("Size of %s is %d, not %d", tell(c.n), got, c.want)
		}
	}
}

func TestCheckOfNoEntry(t *testing.T) {
	for _, none := range [][]api.Entry{nil, {}} {
		checks(t, "a leaf of no entry", leaf(none...), api.ErrNodeForm)
		checks(t, "a branch of no entry", branch(none...), api.ErrNodeForm)
	}
}

func TestCheckOfKeysOfLeaves(t *testing.T) {
	for length, want := range map[int]api.Errno{0: api.ErrNodeForm, 1: api.OK, 2: api.OK, 159: api.OK, 160: api.OK, 161: api.ErrNodeForm, 255: api.ErrNodeForm, 256: api.ErrNodeForm, 257: api.ErrNodeForm, 5000: api.ErrNodeForm} {
		key := long(length)
		checks(t, fmt.Sprint("a key of ", length), leaf(small(key, "1")), want)
		checks(t, fmt.Sprint("a great one's key of ", length), leaf(great(key, 9, 100)), want)
		checks(t, fmt.Sprint("a last key of ", length), leaf(small("a", "1"), small(key, "1")), want)
		if length > 0 {
			checks(t, fmt.Sprint("a first key of ", length), leaf(small(key, "1"), small("z", "1")), want)
		}
	}
}

func TestCheckOfKeysOfBranches(t *testing.T) {
	for length, want := range map[int]api.Errno{0: api.ErrNodeForm, 1: api.OK, 160: api.OK, 161: api.ErrNodeForm, 256: api.ErrNodeForm, 257: api.ErrNodeForm} {
		checks(t, fmt.Sprint("a second key of ", length), branch(kid("", 5), kid(long(length), 6)), want)
		checks(t, fmt.Sprint("a third key of ", length), branch(kid("", 5), kid("a", 6), kid(long(length), 7)), want)
	}
	for _, first := range []string{"", "\x00", "a", long(160), long(161)} {
		want := api.ErrNodeForm
		if first == "" {
			want = api.OK
		}
		checks(t, "an only one", branch(kid(first, 5)), want)
		checks(t, "a first one", branch(kid(first, 5), kid("x", 6)), want)
	}
	checks(t, "a later one empty", branch(kid("", 5), kid("a", 6), kid("", 7)), api.ErrNodeForm)
}

// TestCheckOfOrder holds each two keys against each other, as strings.
func TestCheckOfOrder(t *testing.T) {
	keys := []string{"\x00", "\x00\x00", "\x01", "a", "a\x00", "aa", "ab", "b", "\x7f", "\x80", "\xfe\xff", "\xff", "\xff\x00", long(160)}
	for _, one := range keys {
		for _, two := range keys {
			want := api.OK
			if one >= two {
				want = api.ErrNodeForm
			}
			what := fmt.Sprintf("%q and %q", one, two)
			checks(t, what, leaf(small(one, "1"), small(two, "1")), want)
			checks(t, what, leaf(small(one, "1"), great(two, 9, 100)), want)
			checks(t, what, branch(kid("", 5), kid(one, 6), kid(two, 7)), want)
		}
	}
	checks(t, "the last two fall", leaf(small("a", ""), small("c", ""), small("b", "")), api.ErrNodeForm)
	checks(t, "the first two fall", leaf(small("b", ""), small("a", ""), small("c", "")), api.ErrNodeForm)
	checks(t, "the first two are the same", leaf(small("a", ""), small("a", ""), small("c", "")), api.ErrNodeForm)
}

func TestCheckOfValues(t *testing.T) {
	for length, want := range map[int]api.Errno{0: api.OK, 1: api.OK, 63: api.OK, 64: api.OK, 65: api.ErrNodeForm, 255: api.ErrNodeForm, 256: api.ErrNodeForm, 320: api.ErrNodeForm, 9000: api.ErrNodeForm} {
		checks(t, fmt.Sprint("a value of ", length), leaf(small("a", long(length))), want)
		checks(t, fmt.Sprint("a second value of ", length), leaf(small("a", "1"), small("b", long(length))), want)
	}
	both := great("a", 9, 100)
	both.Value = []byte("1")
	checks(t, "a Value and a Page", leaf(both), api.ErrNodeForm)
	both.Page, both.Size = 0, 1
	checks(t, "a Value and a Size", leaf(both), api.ErrNodeForm)
	both.Page, both.Size = 9, 0
	checks(t, "a Value and a Page alone", leaf(both), api.ErrNodeForm)
	checks(t, "a Size alone", leaf(great("a", 0, 100)), api.ErrNodeForm)
	checks(t, "a Page alone", leaf(great("a", 9, 0)), api.ErrNodeForm)
	checks(t, "one page of two values", leaf(great("a", 9, 100), great("b", 9, 100)), api.OK)
}

func TestCheckOfPagesAndSizes(t *testing.T) {
	for page, want := range map[uint32]api.Errno{0: api.ErrNodeForm, 1: api.ErrNodeForm, 2: api.OK, 3: api.OK, 16383: api.OK, 16384: api.ErrNodeForm, 1 << 16: api.ErrNodeForm, 1<<32 - 1: api.ErrNodeForm, 1<<31 + 2: api.ErrNodeForm} {
		checks(t, fmt.Sprint("a great value's page ", page), leaf(great("a", page, 100)), want)
		checks(t, fmt.Sprint("an only kid's page ", page), branch(kid("", page)), want)
		checks(t, fmt.Sprint("a first kid's page ", page), branch(kid("", page), kid("a", 7)), want)
		checks(t, fmt.Sprint("a last kid's page ", page), branch(kid("", 7), kid("a", page)), want)
	}
	for size, want := range map[uint32]api.Errno{0: api.ErrNodeForm, 1: api.ErrNodeForm, 64: api.ErrNodeForm, 65: api.OK, 66: api.OK, 8192: api.OK, 8193: api.ErrNodeForm, 1 << 16: api.ErrNodeForm, 1<<32 - 1: api.ErrNodeForm, 1<<31 + 100: api.ErrNodeForm} {
		checks(t, fmt.Sprint("a great value's size ", size), leaf(great("a", 9, size)), want)
		checks(t, fmt.Sprint("a kid's size ", size), branch(api.Entry{Page: 9, Size: size}), map[bool]api.Errno{true: api.OK, false: api.ErrNodeForm}[size == 0])
	}
}

func TestCheckOfKids(t *testing.T) {
	with := func(at int, change func(*api.Entry)) api.Node {
		n := branch(kid("", 5), kid("a", 6), kid("b", 7))
		change(&n.Entries[at])
		return n
	}
	for at := range 3 {
		checks(t, "as it is", with(at, func(*api.Entry) {}), api.OK)
		checks(t, "an empty Value", with(at, func(e *api.Entry) { e.Value = []byte{} }), api.OK)
		checks(t, "a Value", with(at, func(e *api.Entry) { e.Value = []byte{0} }), api.ErrNodeForm)
		checks(t, "a Size", with(at, func(e *api.Entry) { e.Size = 1 }), api.ErrNodeForm)
		checks(t, "a great one's Size", with(at, func(e *api.Entry) { e.Size = 100 }), api.ErrNodeForm)
		for other := range 3 {
			want := api.ErrNodeForm
			if other == at {
				want = api.OK
			}
			checks(t, fmt.Sprint("the page of ", other, " at ", at), with(at, func(e *api.Entry) { e.Page = uint32(5 + other) }), want)
		}
	}
}

// TestCheckOfAllEdges lays each edge of each field beside each edge of the others.
func TestCheckOfAllEdges(t *testing.T) {
	values := []int{0, 1, 64, 65}
	pages := []uint32{0, 1, 2, 16383, 16384, 1<<32 - 1}
	sizes := []uint32{0, 1, 64, 65, 8192, 8193, 1<<32 - 1}
	for _, key := range []int{0, 1, 160, 161} {
		for _, value := range values {
			for _, page := range pages {
				for _, size := range sizes {
					e := api.Entry{Key: []byte(long(key)), Value: []byte(long(value)), Page: page, Size: size}
					for _, n := range []api.Node{
						leaf(e), leaf(small("a", "1"), e), leaf(e, small("z", "1")),
						branch(e), branch(kid("", 5), e), branch(e, kid("z", 5)), branch(kid("", 5), e, kid("z", 6)),
					} {
						checks(t, tell(n), n, wanted(n))
					}
				}
			}
		}
	}
}

// leafOf is a leaf of just that Size, from 912 on.
func leafOf(size int) api.Node {
	n := leaf()
	for _, first := range "abcd" {
		n.Entries = append(n.Entries, small(string(first)+long(159), long(64)))
	}
	rest := size - node.Size(n) - 3
	n.Entries = append(n.Entries, small("e"+long(rest/2), long(rest-rest/2)))
	return n
}

// branchOf is a branch of just that Size, from 1003 on.
func branchOf(size int) api.Node {
	n := branch(kid("", 2))
	for _, first := range "abcdef" {
		n.Entries = append(n.Entries, kid(string(first)+long(159), uint32(first)))
	}
	n.Entries = append(n.Entries, kid(long(size-node.Size(n)-5), 16383))
	return n
}

func TestCheckOfLength(t *testing.T) {
	for _, make := range []func(int) api.Node{leafOf, branchOf} {
		for size := 1003; size <= 1030; size++ {
			n := make(size)
			if node.Size(n) != size {
				t.Fatalf("%s is of %d, not %d", tell(n), node.Size(n), size)
			}
			want := api.OK
			if size > 1008 {
				want = api.ErrNodeLong
			}
			checks(t, fmt.Sprint("a Size of ", size), n, want)
		}
	}
}

func TestLengthIsToldLast(t *testing.T) {
	for _, n := range []api.Node{leafOf(1009), branchOf(1009)} {
		last := len(n.Entries) - 1
		for _, spoilt := range []func(l []api.Entry){
			func(l []api.Entry) { l[last].Key = l[last-1].Key },
			func(l []api.Entry) { l[0], l[1] = l[1], l[0] },
			func(l []api.Entry) { l[last].Key = []byte("z" + long(160)) },
			func(l []api.Entry) { l[last].Page = 1 },
			func(l []api.Entry) { l[last].Size = 1 },
			func(l []api.Entry) { l[last].Value = []byte(long(65)) },
		} {
			l := slices.Clone(n.Entries)
			spoilt(l)
			wrong := api.Node{Leaf: n.Leaf, Entries: l}
			if !n.Leaf && node.Size(wrong) <= 1008 || n.Leaf && node.Size(wrong) <= 900 {
				t.Fatal("a node that is not long")
			}
			checks(t, "wrong and too long", wrong, api.ErrNodeForm)
		}
	}
}

// TestGreatValuesAreCountedByTheirPlace holds that a value's Size is no part of the node's.
func TestGreatValuesAreCountedByTheirPlace(t *testing.T) {
	n := leaf()
	for at := range 91 {
		n.Entries = append(n.Entries, great(string(rune('!'+at)), uint32(2+at), 8192))
	}
	checks(t, "91 great values", n, api.OK)
	n.Entries = append(n.Entries, great("}", 2, 8192))
	checks(t, "92 great values", n, api.ErrNodeLong)
}

func TestCheckOfDrawnNodes(t *testing.T) {
	var d drawn = 1
	for range 3000 {
		n := d.node(d.below(2) == 0, d.below(12))
		checks(t, tell(n), n, wanted(n))
	}
}
