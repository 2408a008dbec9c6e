package tree_test

import (
	"fmt"
	"math/rand"
	"slices"
	"strings"
	"testing"

	"codicil/api"
)

// lengths are ways to make the i-th key and its value: tiny ones, the longest, and such that lie far apart in their lengths.
var lengths = map[string]func(i int) api.Change{
	"tiny":       func(i int) api.Change { return put(string([]byte{byte(i >> 8), byte(i)}), "") },
	"middling":   func(i int) api.Change { return put(fmt.Sprintf("key-%05d", i), mixed(20, uint32(i))) },
	"long":       func(i int) api.Change { return put(longKey(i), mixed(64, uint32(i))) },
	"long keys":  func(i int) api.Change { return put(longKey(i), "") },
	"one at end": func(i int) api.Change { return put(strings.Repeat("k", 155)+fmt.Sprintf("%05d", i), mixed(i%65, 1)) },
	"mixed": func(i int) api.Change {
		return put(fmt.Sprintf("%05d", i)+strings.Repeat("m", (i*i*31)%156), mixed((i*37)%65, uint32(i)))
	},
	"short and long": func(i int) api.Change {
		return put(fmt.Sprintf("%05d", i)+strings.Repeat("s", (i%2)*155), mixed((i%3/2)*64, uint32(i)))
	},
	"few long": func(i int) api.Change {
		return put(fmt.Sprintf("%05d", i)+strings.Repeat("f", (i%17/16)*155), mixed((i%13/12)*64, uint32(i)))
	},
}

// orders are ways through so many keys.
var orders = map[string]func(count int) []int{
	"rising": func(count int) []int {
		var out []int
		for i := range count {
			out = append(out, i)
		}
		return out
	},
	"falling": func(count int) []int {
		var out []int
		for i := range count {
			out = append(out, count-1-i)
		}
		return out
	},
	"mixed": func(count int) []int { return rand.New(rand.NewSource(int64(count))).Perm(count) },
	"from both ends": func(count int) []int {
		var out []int
		for i := range count {
			out = append(out, []int{i / 2, count - 1 - i/2}[i%2])
		}
		return out
	},
	"every third": func(count int) []int {
		var out []int
		for start := range 3 {
			for i := start; i < count; i += 3 {
				out = append(out, i)
			}
		}
		return out
	},
}

// TestItStaysSmall: rows of puts and of deletes, in all orders; written looks at the bounds behind each.
func TestItStaysSmall(t *testing.T) {
	for kind, change := range lengths {
		for in, rise := range orders {
			for out, fall := range orders {
				if kind != "mixed" && in != out && in != "rising" {
					continue
				}
				t.Run(kind+", "+in+", "+out, func(t *testing.T) {
					t.Parallel()
					g := newGround(t, 400, 400)
					root := uint32(0)
					for _, i := range rise(120) {
						root = g.follow(root, change(i))
					}
					for _, i := range fall(120) {
						root = g.follow(root, del(string(change(i).Key)))
					}
				})
			}
		}
	}
}

// TestItStaysSmallInLists: the same in lists of several changes, with runs of keys that are taken away at once.
func TestItStaysSmallInLists(t *testing.T) {
	for kind, change := range lengths {
		for _, most := range []int{2, 5, 40, 300} {
			t.Run(fmt.Sprint(kind, most), func(t *testing.T) {
				t.Parallel()
				r := rand.New(rand.NewSource(int64(most)))
				g := newGround(t, 1500, 1500)
				root := uint32(0)
				for range 40 {
					var l []api.Change
					from := r.Intn(600)
					for i := range 1 + r.Intn(most) {
						c := change((from + i) % 600)
						if c.Delete = r.Intn(3) > 0; r.Intn(3) == 0 {
							c = change(r.Intn(600))
						}
						l = append(l, c)
					}
					if r.Intn(4) == 0 {
						for i := range l {
							l[i].Delete = true
						}
					}
					root = g.follow(root, l...)
				}
				g.stands(root)
			})
		}
	}
}

// TestValuesThatShrink: leaves whose values are written over by less and less stay as few.
func TestValuesThatShrink(t *testing.T) {
	for kind, change := range lengths {
		g := newGround(t, 900, 900)
		var l []api.Change
		for i := range 150 {
			c := change(i)
			l = append(l, put(string(c.Key), mixed(64, 1)))
		}
		root := g.edit(0, l...)
		for size := 63; size >= 0; size -= 21 {
			for i := range 150 {
				root = g.follow(root, put(string(l[(i*7)%150].Key), mixed(size, 2)))
			}
		}
		if x := g.trees[root]; kind == "tiny" && x.leaves+x.branches > 6 {
			t.Errorf("150 tiny pairs stand on %d leaves and %d branches", x.leaves, x.branches)
		}
	}
}

// TestNeedOfOneChange: also where the tree is as high as it gets, and each branch has few kids.
func TestNeedOfOneChange(t *testing.T) {
	g := newGround(t, 16384, 16384)
	var l []api.Change
	for i := range 5000 {
		l = append(l, put(longKey(2*i), mixed(64, 1)))
	}
	root := g.edit(0, l...)
	levels := g.trees[root].levels
	if levels < 6 {
		t.Errorf("%d levels", levels)
	}
	most := 0
	for i := range 10000 {
		c := put(longKey(i), mixed(64, 2))
		c.Delete = i%4 == 0
		d := g.draft(root, c)
		most = max(most, d.Need())
		if i%1000 == 3 {
			g.drop(g.edit(root, c))
		}
	}
	if most > 2*levels+1 || most < levels {
		t.Errorf("a change of a tree of %d levels takes %d pages", levels, most)
	}
}

// TestGreatValuesInRows: what great values take comes on top, and goes with them.
func TestGreatValuesInRows(t *testing.T) {
	g := newGround(t, 4000, 400)
	root := uint32(0)
	r := rand.New(rand.NewSource(3))
	for step := range 300 {
		key := fmt.Sprintf("%03d", r.Intn(60))
		c := put(key, mixed([]int{65, 1004, 1005, 3000, 8192, 64, 0}[r.Intn(7)], uint32(step)))
		c.Delete = r.Intn(3) == 0
		root = g.follow(root, c)
	}
	g.stands(root)
	pairs := g.trees[root].pairs
	var l []api.Change
	for key := range pairs {
		l = append(l, put(key, "small"))
	}
	root = g.follow(root, l...)
	if x := g.trees[root]; len(x.pages) != x.leaves+x.branches || len(x.pages) > len(pairs)+8 || !slices.IsSorted(x.pages) {
		t.Errorf("%d small pairs stand on %d pages", len(pairs), len(x.pages))
	}
}
