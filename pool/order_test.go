package pool_test

import (
	"testing"

	"codicil/api"
	"codicil/page"
)

func TestTheEldestGoes(t *testing.T) {
	d := lettered(t, 9)
	p := made(t, d, 3)
	readsLetter(t, p, 0, 1, 2)
	for number := uint32(3); number < 9; number++ {
		readsLetter(t, p, number)
		hasJust(t, p, number, number-1, number-2)
	}
	counts(t, d, 9, 0, 0)
}

func TestAPoolOfOne(t *testing.T) {
	d := lettered(t, 4)
	p := made(t, d, 1)
	for _, number := range []uint32{0, 1, 0, 2, 3, 2} {
		costs(t, "a read", d, 1, 0, 0, func() { readsLetter(t, p, number) })
		hasJust(t, p, number)
		costs(t, "a read again", d, 0, 0, 0, func() { readsLetter(t, p, number) })
		hasJust(t, p, number)
	}
	writes(t, p, 1, page.Leaf, []byte("new"))
	hasJust(t, p, 1)
	p.Forget(1)
	hasJust(t, p)
	readsLetter(t, p, 0)
	hasJust(t, p, 0)
}

// TestEachUseCounts goes through all orders of use of three pages, by reads and by writes: they go in that order.
func TestEachUseCounts(t *testing.T) {
	p := made(t, lettered(t, 9), 3)
	read := func(number uint32) { p.Read(number) }
	write := func(number uint32) { p.Write(number, page.Leaf, []byte("w")) }
	for _, way := range []struct{ first, again func(uint32) }{{read, read}, {read, write}, {write, read}, {write, write}} {
		for _, order := range [][3]uint32{{0, 1, 2}, {0, 2, 1}, {1, 0, 2}, {1, 2, 0}, {2, 0, 1}, {2, 1, 0}} {
			for _, number := range []uint32{0, 1, 2} {
				way.first(number)
			}
			for _, number := range order {
				way.again(number)
			}
			hasJust(t, p, order[:]...)
			way.first(5)
			hasJust(t, p, order[1], order[2], 5)
			way.first(6)
			hasJust(t, p, order[2], 5, 6)
			way.first(7)
			hasJust(t, p, 5, 6, 7)
		}
	}
}

func TestNoneGoesWhereThereIsRoom(t *testing.T) {
	for _, most := range []int{6, 7, 100} {
		d := lettered(t, 6)
		p := made(t, d, most)
		for range 3 {
			readsLetter(t, p, 0, 1, 2, 3, 4, 5)
		}
		hasJust(t, p, 0, 1, 2, 3, 4, 5)
		counts(t, d, 6, 0, 0)
	}
}

func TestForget(t *testing.T) {
	for _, gone := range []uint32{1, 2, 3} {
		d := lettered(t, 6)
		p := made(t, d, 3)
		readsLetter(t, p, 1, 2, 3)
		costs(t, "Forget", d, 0, 0, 0, func() { p.Forget(gone) })
		var stay []uint32
		for _, number := range []uint32{1, 2, 3} {
			if number != gone {
				stay = append(stay, number)
			}
		}
		hasJust(t, p, stay...)
		p.Forget(gone)
		hasJust(t, p, stay...)
		readsLetter(t, p, 4)
		hasJust(t, p, stay[0], stay[1], 4)
		readsLetter(t, p, 5)
		hasJust(t, p, stay[1], 4, 5)
		costs(t, "a read of what was forgotten", d, 1, 0, 0, func() { readsLetter(t, p, gone) })
		hasJust(t, p, 4, 5, gone)
	}
}

func TestForgetOfWhatIsNotAtHand(t *testing.T) {
	d := lettered(t, 6)
	p := made(t, d, 2)
	p.Forget(0)
	hasJust(t, p)
	readsLetter(t, p, 1, 2)
	for _, number := range append(beyond(6), 0, 3, 5) {
		p.Forget(number)
		hasJust(t, p, 1, 2)
	}
	counts(t, d, 2, 0, 0)
	readsLetter(t, p, 3)
	hasJust(t, p, 2, 3)
}

func TestForgetOfAll(t *testing.T) {
	d := lettered(t, 6)
	p := made(t, d, 3)
	for range 3 {
		readsLetter(t, p, 1, 2, 3, 4)
		for number := range uint32(6) {
			p.Forget(number)
		}
		hasJust(t, p)
	}
	counts(t, d, 12, 0, 0)
}

// TestForgetOfWhatWasWritten: what was written is not lost by it.
func TestForgetOfWhatWasWritten(t *testing.T) {
	d := lettered(t, 3)
	p := made(t, d, 3)
	writes(t, p, 1, page.Over, []byte("new"))
	p.Forget(1)
	hasJust(t, p)
	costs(t, "a read", d, 1, 0, 0, func() { reads(t, p, 1, page.Over, []byte("new")) })
}

func TestForgetInTheDark(t *testing.T) {
	d := lettered(t, 3)
	p := made(t, d, 3)
	readsLetter(t, p, 1, 2)
	d.Trip(0)
	p.Forget(1)
	if d.Dark() {
		t.Error("Forget has used up the trip")
	}
	refusesRead(t, p, 1, api.ErrDark)
	p.Forget(2)
	refusesRead(t, p, 2, api.ErrDark)
	hasJust(t, p)
}

// TestHasAndLenUseNothing: neither an operation nor a page.
func TestHasAndLenUseNothing(t *testing.T) {
	d := lettered(t, 6)
	p := made(t, d, 3)
	readsLetter(t, p, 1, 2, 3)
	d.Trip(0)
	for range 5 {
		for _, number := range append(beyond(6), 0, 1, 5, 1) {
			if p.Has(number) != (number == 1) {
				t.Errorf("Has(%d) tells %v", number, p.Has(number))
			}
		}
		if p.Len() != 3 || p.Pages() != 6 {
			t.Errorf("Len is %d, Pages is %d", p.Len(), p.Pages())
		}
	}
	counts(t, d, 3, 0, 0)
	if d.Dark() {
		t.Error("Has, Len or Pages has used up the trip")
	}
	d.Cut()
	readsLetter(t, p, 4)
	hasJust(t, p, 2, 3, 4)
}
