package free_test

import (
	"fmt"
	"math/rand"
	"slices"
	"strings"
	"testing"

	"codicil/api"
	"codicil/free"
)

// plain is a list by the chapter's words: pages with their generations, gone through whenever something is asked.
type plain []freed

func (p *plain) add(page uint32, generation uint64) api.Errno {
	if page < 2 || page > 16383 || slices.ContainsFunc(*p, func(f freed) bool { return f.page == page }) {
		return api.ErrFreeForm
	}
	*p = append(*p, freed{page, generation})
	return api.OK
}

func (p *plain) take(oldest uint64) (uint32, bool) {
	best := -1
	for at, f := range *p {
		if f.generation <= oldest && (best < 0 || f.page < (*p)[best].page) {
			best = at
		}
	}
	if best < 0 {
		return 0, false
	}
	page := (*p)[best].page
	*p = slices.Delete(*p, best, best+1)
	return page, true
}

func (p *plain) may(oldest uint64) int {
	n := 0
	for _, f := range *p {
		if f.generation <= oldest {
			n++
		}
	}
	return n
}

func (p *plain) all() []uint32 {
	var out []uint32
	for _, f := range *p {
		out = append(out, f.page)
	}
	slices.Sort(out)
	return out
}

// pair is a list, and a plain one to which the same happens.
type pair struct {
	list  *free.List
	plain *plain
}

func newPair() pair { return pair{free.New(), &plain{}} }

func (p pair) clone() pair {
	c := slices.Clone(*p.plain)
	return pair{p.list.Clone(), &c}
}

// alike says whether both have the same, asked with these generations.
func (p pair) alike(generations []uint64) bool {
	if p.list.Len() != len(*p.plain) || !slices.Equal(p.list.All(), p.plain.all()) {
		return false
	}
	for _, g := range generations {
		if p.list.May(g) != p.plain.may(g) {
			return false
		}
	}
	return true
}

// step does one thing with one pair of some, and says whether its two answer alike.
type step struct {
	name string
	do   func(all []pair) bool
}

func addStep(which int, page uint32, generation uint64) step {
	return step{fmt.Sprintf("%d.Add(%d, %d)", which, page, generation), func(all []pair) bool {
		return all[which].list.Add(page, generation) == all[which].plain.add(page, generation)
	}}
}

func takeStep(which int, oldest uint64) step {
	return step{fmt.Sprintf("%d.Take(%d)", which, oldest), func(all []pair) bool {
		page, is := all[which].list.Take(oldest)
		wantPage, want := all[which].plain.take(oldest)
		return page == wantPage && is == want
	}}
}

// cloneStep puts a clone of one pair in another one's place.
func cloneStep(from, to int) step {
	return step{fmt.Sprintf("%d = %d.Clone()", to, from), func(all []pair) bool {
		all[to] = all[from].clone()
		return true
	}}
}

func names(steps []step) string {
	var out []string
	for _, s := range steps {
		out = append(out, s.name)
	}
	return strings.Join(out, ", ")
}

func newPairs(count int) []pair {
	var out []pair
	for range count {
		out = append(out, newPair())
	}
	return out
}

// rows plays all rows of at most so many of these steps with so many pairs, each from the beginning.
func rows(t *testing.T, count, longest int, steps []step) {
	t.Helper()
	generations := []uint64{0, 1, 2, 3}
	var grow func(row []step)
	grow = func(row []step) {
		all := newPairs(count)
		for _, s := range row {
			if !s.do(all) {
				t.Fatalf("another answer: %s", names(row))
			}
		}
		for at, p := range all {
			if !p.alike(generations) {
				t.Fatalf("another list %d: %s", at, names(row))
			}
		}
		if len(row) == longest {
			return
		}
		for _, s := range steps {
			grow(append(row, s))
		}
	}
	grow(make([]step, 0, longest))
}

func TestAllRowsOfAddsAndTakes(t *testing.T) {
	rows(t, 1, 6, []step{
		addStep(0, 2, 2), addStep(0, 3, 1), addStep(0, 4, 3),
		takeStep(0, 0), takeStep(0, 1), takeStep(0, 2), takeStep(0, 3),
	})
	rows(t, 1, 4, []step{
		addStep(0, 2, 0), addStep(0, 2, 2), addStep(0, 3, 1), addStep(0, 16383, 1), addStep(0, 4, 3), addStep(0, 1, 1), addStep(0, 0, 0), addStep(0, 16384, 1), addStep(0, greatest, 2),
		takeStep(0, 0), takeStep(0, 1), takeStep(0, 2), takeStep(0, 3), takeStep(0, forever),
	})
}

func TestAllRowsWithClones(t *testing.T) {
	rows(t, 2, 5, []step{
		addStep(0, 2, 2), addStep(0, 3, 1), addStep(1, 3, 2), addStep(1, 4, 1),
		takeStep(0, 1), takeStep(0, 2), takeStep(1, 1), takeStep(1, 2),
		cloneStep(0, 1), cloneStep(1, 0),
	})
}

// anyStep draws a step with few or many pages and generations, so that there are many twice and many of one generation.
func anyStep(r *rand.Rand, count, pages, generations int) step {
	which := r.Intn(count)
	generation := uint64(r.Intn(generations))
	if r.Intn(30) == 0 {
		generation = forever - generation
	}
	switch r.Intn(16) {
	case 0:
		return cloneStep(which, r.Intn(count))
	case 1:
		wrong := []uint32{0, 1, 16384, 16385, greatest, 1 << 20, 1<<31 + 5}
		return addStep(which, wrong[r.Intn(len(wrong))], generation)
	case 2:
		return addStep(which, 16383-uint32(r.Intn(3)), generation)
	case 3, 4, 5, 6, 7, 8:
		return takeStep(which, generation)
	default:
		return addStep(which, uint32(2+r.Intn(pages)), generation)
	}
}

func TestLongRowsOfAnySteps(t *testing.T) {
	for seed := range 300 {
		r := rand.New(rand.NewSource(int64(seed)))
		count, pages, generations := 1+r.Intn(3), 1+r.Intn(100), 1+r.Intn(20)
		asked := []uint64{0, uint64(generations / 2), uint64(generations), forever - 1, forever}
		all := newPairs(count)
		var steps []step
		for range 400 {
			s := anyStep(r, count, pages, generations)
			steps = append(steps, s)
			if !s.do(all) {
				t.Fatalf("seed %d: another answer: %s", seed, names(steps))
			}
			for at, p := range all {
				if !p.alike(asked) {
					t.Fatalf("seed %d: another list %d: %s", seed, at, names(steps))
				}
			}
		}
	}
}

// TestTakeGivesWhatWasThere and is the least that may be: looked at by May and All alone, without a plain list.
func TestTakeGivesWhatWasThere(t *testing.T) {
	for seed := range 50 {
		r := rand.New(rand.NewSource(int64(seed)))
		l := free.New()
		let := map[uint32]uint64{}
		for range 300 {
			page, generation := uint32(2+r.Intn(16382)), uint64(r.Intn(9))
			if l.Add(page, generation) == api.OK {
				let[page] = generation
			}
			if r.Intn(3) > 0 {
				continue
			}
			oldest := uint64(r.Intn(10))
			before, may := l.All(), l.May(oldest)
			got, is := l.Take(oldest)
			if is != (may > 0) {
				t.Fatalf("seed %d: Take(%d): %v of %d", seed, oldest, is, may)
			}
			if !is {
				continue
			}
			least := slices.IndexFunc(before, func(page uint32) bool { return let[page] <= oldest })
			if before[least] != got || !slices.Equal(slices.Delete(before, least, least+1), l.All()) || l.May(oldest) != may-1 {
				t.Fatalf("seed %d: Take(%d): %d", seed, oldest, got)
			}
		}
	}
}
