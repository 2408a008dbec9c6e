package free_test

import (
	"math"
	"math/rand"
	"slices"
	"testing"

	"codicil/api"
	"codicil/free"
)

const greatest = math.MaxUint32

// forever is an oldest under which every page may be taken.
const forever = math.MaxUint64

// freed is a page with the generation that let it go.
type freed struct {
	page       uint32
	generation uint64
}

// listOf is a list to which these were added, in this order.
func listOf(t *testing.T, all ...freed) *free.List {
	t.Helper()
	l := free.New()
	adds(t, l, all...)
	return l
}

func adds(t *testing.T, l *free.List, all ...freed) {
	t.Helper()
	for _, f := range all {
		if err := l.Add(f.page, f.generation); err != api.OK {
			t.Fatalf("Add(%d, %d): %v", f.page, f.generation, err)
		}
	}
}

func refusesAdd(t *testing.T, l *free.List, page uint32, generation uint64) {
	t.Helper()
	if err := l.Add(page, generation); err != api.ErrFreeForm {
		t.Errorf("Add(%d, %d): %v", page, generation, err)
	}
}

// takes looks whether these pages come out, one behind the other.
func takes(t *testing.T, l *free.List, oldest uint64, want ...uint32) {
	t.Helper()
	for _, page := range want {
		if got, is := l.Take(oldest); got != page || !is {
			t.Fatalf("Take(%d): %d, %v, not %d", oldest, got, is, page)
		}
	}
}

func takesNone(t *testing.T, l *free.List, oldest uint64) {
	t.Helper()
	if got, is := l.Take(oldest); got != 0 || is {
		t.Errorf("Take(%d): %d, %v, not none", oldest, got, is)
	}
}

func hasJust(t *testing.T, l *free.List, want ...uint32) {
	t.Helper()
	if got := l.All(); !slices.Equal(got, want) {
		t.Errorf("All: %d, not %d", got, want)
	}
	if got := l.Len(); got != len(want) {
		t.Errorf("Len: %d, not %d", got, len(want))
	}
	if got := l.May(forever); got != len(want) {
		t.Errorf("May of the greatest generation: %d, not %d", got, len(want))
	}
}

func mayTake(t *testing.T, l *free.List, oldest uint64, want int) {
	t.Helper()
	if got := l.May(oldest); got != want {
		t.Errorf("May(%d): %d, not %d", oldest, got, want)
	}
}

func TestFirstExample(t *testing.T) {
	l := listOf(t, freed{5, 3}, freed{4, 7}, freed{9, 3})
	takesNone(t, l, 2)
	takes(t, l, 3, 5)
	takes(t, l, 9, 4)
	hasJust(t, l, 9)
	refusesAdd(t, l, 9, 1)
	hasJust(t, l, 9)
}

func TestErrorsNumber(t *testing.T) {
	if api.ErrFreeForm != 110 {
		t.Error(api.ErrFreeForm)
	}
}

func TestNewHasNoPages(t *testing.T) {
	l := free.New()
	hasJust(t, l)
	for _, oldest := range []uint64{0, 1, forever} {
		takesNone(t, l, oldest)
		mayTake(t, l, oldest, 0)
	}
	hasJust(t, l)
}

func TestAddOfPagesInAndOutOfRange(t *testing.T) {
	l := free.New()
	for _, page := range []uint32{0, 1, 16384, 16385, 32768 + 2, 65536 + 2, 1 << 31, greatest - 1, greatest} {
		for _, generation := range []uint64{0, 1, forever} {
			refusesAdd(t, l, page, generation)
		}
	}
	hasJust(t, l)
	takesNone(t, l, forever)
	adds(t, l, freed{16383, 1}, freed{2, 1}, freed{3, 1}, freed{16382, 1})
	hasJust(t, l, 2, 3, 16382, 16383)
	for _, page := range []uint32{0, 1, 16384, greatest} {
		refusesAdd(t, l, page, 1)
	}
	takes(t, l, 1, 2, 3, 16382, 16383)
	takesNone(t, l, 1)
}

// TestAddOfAPageThatIsThere, ready or waiting, keeps the generation that it had.
func TestAddOfAPageThatIsThere(t *testing.T) {
	for _, ahead := range []uint64{0, 4, 5, 6, forever} {
		for _, generation := range []uint64{0, 4, 5, 6, forever} {
			l := listOf(t, freed{3, 9})
			l.Take(min(ahead, 8))
			adds(t, l, freed{7, 5})
			refusesAdd(t, l, 7, generation)
			refusesAdd(t, l, 7, generation)
			hasJust(t, l, 3, 7)
			mayTake(t, l, 4, 0)
			mayTake(t, l, 5, 1)
			takesNone(t, l, 4)
			takes(t, l, 5, 7)
			takesNone(t, l, 8)
			hasJust(t, l, 3)
		}
	}
}

// TestAPageThatWasTakenComesAgain, also with a lesser generation, and just once.
func TestAPageThatWasTakenComesAgain(t *testing.T) {
	for _, generation := range []uint64{0, 4, 5, 6, forever} {
		l := listOf(t, freed{7, 5}, freed{8, 5})
		takes(t, l, 5, 7)
		hasJust(t, l, 8)
		adds(t, l, freed{7, generation})
		refusesAdd(t, l, 7, generation)
		hasJust(t, l, 7, 8)
		if generation > 0 {
			takesNone(t, l, min(generation-1, 4))
		}
		takes(t, l, generation, 7)
		hasJust(t, l, 8)
		takes(t, l, 5, 8)
		takesNone(t, l, forever)
	}
}

func TestTakeBelowAtAndAboveAGeneration(t *testing.T) {
	for _, generation := range []uint64{1, 2, 255, 256, 1 << 31, 1 << 32, 1 << 63, forever - 1} {
		l := listOf(t, freed{10, generation}, freed{11, generation})
		mayTake(t, l, 0, 0)
		mayTake(t, l, generation-1, 0)
		mayTake(t, l, generation, 2)
		mayTake(t, l, generation+1, 2)
		takesNone(t, l, 0)
		takesNone(t, l, generation-1)
		takes(t, l, generation, 10)
		takesNone(t, l, generation-1)
		takes(t, l, generation+1, 11)
		takesNone(t, l, forever)
	}
}

func TestTheLeastAndTheGreatestGeneration(t *testing.T) {
	l := listOf(t, freed{5, forever}, freed{6, 0}, freed{4, forever - 1})
	mayTake(t, l, 0, 1)
	mayTake(t, l, forever-2, 1)
	mayTake(t, l, forever-1, 2)
	mayTake(t, l, forever, 3)
	takes(t, l, 0, 6)
	takesNone(t, l, 0)
	takesNone(t, l, forever-2)
	takes(t, l, forever-1, 4)
	takesNone(t, l, forever-1)
	takes(t, l, forever, 5)
	takesNone(t, l, forever)
}

func TestTakeWithAnOldestThatRises(t *testing.T) {
	l := listOf(t, freed{9, 1}, freed{8, 2}, freed{7, 3}, freed{6, 4}, freed{5, 5})
	takesNone(t, l, 0)
	takes(t, l, 1, 9)
	takesNone(t, l, 1)
	takes(t, l, 3, 7, 8)
	takesNone(t, l, 3)
	takes(t, l, forever, 5, 6)
	takesNone(t, l, forever)
}

// TestTakeWithAnOldestThatFalls: a page that might be taken under a greater oldest may not be under a lesser one.
func TestTakeWithAnOldestThatFalls(t *testing.T) {
	l := listOf(t, freed{5, 5}, freed{6, 4}, freed{7, 3}, freed{8, 2}, freed{9, 1})
	takes(t, l, 5, 5)
	takes(t, l, 3, 7)
	mayTake(t, l, 4, 3)
	takes(t, l, 1, 9)
	takesNone(t, l, 1)
	takesNone(t, l, 0)
	hasJust(t, l, 6, 8)
	takes(t, l, 2, 8)
	takesNone(t, l, 3)
	takes(t, l, 4, 6)
	hasJust(t, l)
}

func TestTakeWithAnOldestThatRisesAndFalls(t *testing.T) {
	l := listOf(t, freed{5, 50}, freed{6, 10}, freed{7, 40}, freed{8, 20}, freed{9, 30})
	takes(t, l, 30, 6)
	takesNone(t, l, 10)
	takes(t, l, 49, 7)
	takes(t, l, 20, 8)
	adds(t, l, freed{4, 25}, freed{3, 15}, freed{2, 60})
	takes(t, l, 15, 3)
	takesNone(t, l, 24)
	takes(t, l, 25, 4)
	takesNone(t, l, 25)
	takes(t, l, 59, 5, 9)
	takesNone(t, l, 59)
	takes(t, l, 60, 2)
}

// TestAddBehindATake: a page whose generation the last oldest has reached may be taken at once, one above it not.
func TestAddBehindATake(t *testing.T) {
	l := listOf(t, freed{20, 1})
	takes(t, l, 10, 20)
	adds(t, l, freed{21, 11}, freed{22, 10}, freed{23, 9}, freed{24, 0})
	mayTake(t, l, 10, 3)
	takes(t, l, 10, 22, 23, 24)
	takesNone(t, l, 10)
	takes(t, l, 11, 21)
}

// orders hands on every order of these.
func orders(all []freed, look func([]freed)) {
	var place func(n int)
	place = func(n int) {
		if n == len(all) {
			look(all)
			return
		}
		for at := n; at < len(all); at++ {
			all[n], all[at] = all[at], all[n]
			place(n + 1)
			all[n], all[at] = all[at], all[n]
		}
	}
	place(0)
}

func TestTakeGivesTheLeastWhateverTheOrderOfAdds(t *testing.T) {
	all := []freed{{2, 3}, {3, 1}, {4, 2}, {5, 1}, {6, 2}, {7, 3}}
	orders(all, func(row []freed) {
		takes(t, listOf(t, row...), 3, 2, 3, 4, 5, 6, 7)
		l := listOf(t, row...)
		takes(t, l, 1, 3)
		takes(t, l, 3, 2)
		takes(t, l, 2, 4, 5, 6)
		takesNone(t, l, 2)
		hasJust(t, l, 7)
	})
}

// TestAFullList has every page that there may be.
func TestAFullList(t *testing.T) {
	r := rand.New(rand.NewSource(1))
	l := free.New()
	var want []uint32
	for _, at := range r.Perm(16382) {
		adds(t, l, freed{uint32(at + 2), uint64(at % 5)})
	}
	for page := uint32(2); page < 16384; page++ {
		want = append(want, page)
		refusesAdd(t, l, page, 1)
	}
	hasJust(t, l, want...)
	mayTake(t, l, 0, 3277)
	mayTake(t, l, 3, 13106)
	for _, page := range want {
		if page%5 == 2 {
			takes(t, l, 0, page)
		}
	}
	takesNone(t, l, 0)
	takes(t, l, 4, 3, 4, 5, 6, 8)
	hasJust(t, l, slices.DeleteFunc(want, func(page uint32) bool { return page%5 == 2 || page < 9 })...)
}

// TestAskingChangesNothing: what is asked between two calls is told by none of those behind it.
func TestAskingChangesNothing(t *testing.T) {
	l := listOf(t, freed{5, 5}, freed{6, 4}, freed{7, 3}, freed{8, 2}, freed{9, 1})
	ask := func() {
		for _, oldest := range []uint64{forever, 0, 5, 1, 3} {
			l.May(oldest)
		}
		l.Len()
		l.All()
		l.Clone()
	}
	ask()
	takes(t, l, 3, 7)
	ask()
	ask()
	takes(t, l, 3, 8)
	ask()
	takes(t, l, 4, 6)
	ask()
	adds(t, l, freed{7, 2})
	ask()
	refusesAdd(t, l, 7, 1)
	takesNone(t, l, 0)
	ask()
	mayTake(t, l, 2, 2)
	mayTake(t, l, 2, 2)
	hasJust(t, l, 5, 7, 9)
	hasJust(t, l, 5, 7, 9)
	takes(t, l, forever, 5, 7, 9)
	ask()
	takesNone(t, l, forever)
}

// TestWhatIsRefusedChangesNothing: neither a refused Add nor a Take that finds nothing.
func TestWhatIsRefusedChangesNothing(t *testing.T) {
	l := listOf(t, freed{5, 5}, freed{6, 4})
	for _, page := range []uint32{0, 1, 5, 6, 16384, greatest} {
		refusesAdd(t, l, page, 0)
		refusesAdd(t, l, page, forever)
	}
	takesNone(t, l, 3)
	hasJust(t, l, 5, 6)
	mayTake(t, l, 3, 0)
	mayTake(t, l, 4, 1)
	takes(t, l, 4, 6)
	takesNone(t, l, 4)
	takes(t, l, 5, 5)
}
