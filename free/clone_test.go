package free_test

import (
	"testing"

	"codicil/free"
)

func TestCloneHasTheSame(t *testing.T) {
	l := listOf(t, freed{5, 3}, freed{4, 7}, freed{9, 3}, freed{2, 0}, freed{16383, forever})
	c := l.Clone()
	hasJust(t, c, 2, 4, 5, 9, 16383)
	for _, at := range []struct {
		oldest uint64
		may    int
	}{{0, 1}, {2, 1}, {3, 3}, {6, 3}, {7, 4}, {forever - 1, 4}, {forever, 5}} {
		mayTake(t, c, at.oldest, at.may)
	}
	refusesAdd(t, c, 4, 1)
	takes(t, c, 3, 2, 5, 9)
	takesNone(t, c, 6)
	takes(t, c, 7, 4)
	takesNone(t, c, forever-1)
	takes(t, c, forever, 16383)
	hasJust(t, l, 2, 4, 5, 9, 16383)
}

func TestCloneOfAnEmptyList(t *testing.T) {
	l := free.New()
	c := l.Clone()
	hasJust(t, c)
	takesNone(t, c, forever)
	adds(t, c, freed{5, 1})
	adds(t, l, freed{5, 2})
	hasJust(t, l, 5)
	takes(t, c, 1, 5)
	takesNone(t, l, 1)
	takes(t, l, 2, 5)
}

// TestBothGoTheirOwnWays whichever of the two is changed, behind Takes that have made some pages ready and left others waiting.
func TestBothGoTheirOwnWays(t *testing.T) {
	for _, reach := range []uint64{0, 1, 2, 3, 4} {
		for turn := range 2 {
			l := listOf(t, freed{20, 3}, freed{21, 1}, freed{22, 2}, freed{23, 4}, freed{24, 1})
			adds(t, l, freed{16000, 0})
			l.Take(reach)
			all := l.All()
			one, other := l, l.Clone()
			if turn == 1 {
				one, other = other, one
			}
			adds(t, one, freed{10, 2}, freed{11, 1}, freed{12, 3}, freed{13, 0}, freed{14, 9})
			hasJust(t, other, all...)
			takes(t, one, 3, 10, 11, 12, 13)
			hasJust(t, other, all...)
			adds(t, other, freed{14, 1}, freed{10, 5})
			takes(t, other, 1, 14)
			takes(t, one, 9, 14)
			takes(t, other, 5, 10)
			hasJust(t, one, all...)
			hasJust(t, other, all...)
			takes(t, one, forever, all...)
			hasJust(t, one)
			hasJust(t, other, all...)
			takes(t, other, forever, all...)
			takesNone(t, one, forever)
		}
	}
}

// TestClonesAddTheSameNumberAtOnce: what one adds where its lists would grow is not seen by the other one.
func TestClonesAddTheSameNumberAtOnce(t *testing.T) {
	for size := range uint32(40) {
		l := free.New()
		for page := range size {
			adds(t, l, freed{page + 100, uint64(page % 2)})
		}
		all := l.All()
		c := l.Clone()
		adds(t, l, freed{50, 1}, freed{51, 0})
		adds(t, c, freed{60, 1}, freed{61, 0})
		takes(t, l, 1, 50, 51)
		takes(t, c, 1, 60, 61)
		takes(t, l, 1, all...)
		takes(t, c, 1, all...)
		hasJust(t, l)
		hasJust(t, c)
	}
}

func TestACloneOfAClone(t *testing.T) {
	first := listOf(t, freed{5, 5}, freed{6, 6}, freed{7, 7})
	second := first.Clone()
	takes(t, second, 5, 5)
	third := second.Clone()
	takes(t, third, 6, 6)
	takesNone(t, third, 5)
	adds(t, third, freed{5, 9})
	hasJust(t, first, 5, 6, 7)
	hasJust(t, second, 6, 7)
	hasJust(t, third, 5, 7)
	takesNone(t, third, 6)
	takes(t, second, 7, 6, 7)
	takes(t, first, 7, 5, 6, 7)
	takes(t, third, 9, 5, 7)
}

func TestListsKnowNothingOfOneAnother(t *testing.T) {
	one, two := free.New(), free.New()
	adds(t, one, freed{5, 1}, freed{6, 9})
	hasJust(t, two)
	takesNone(t, two, forever)
	adds(t, two, freed{5, 2})
	takes(t, one, 9, 5)
	hasJust(t, one, 6)
	takesNone(t, two, 1)
	takes(t, two, 2, 5)
	hasJust(t, one, 6)
}
