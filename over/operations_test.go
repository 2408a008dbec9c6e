package over_test

import (
	"testing"

	"codicil/api"
	"codicil/page"
)

func TestReadDoesOneReadAPage(t *testing.T) {
	for _, size := range edges {
		value, need := mixed(size, 31), plainNeed(size)
		at := from(3, need)
		d := loaded(t, 13, sheets(value, at)...)
		p := made(t, d, 9)
		costs(t, "the first read", d, need, func() { reads(t, p, value, at) })
		hasJust(t, p, at...)
		costs(t, "a read of what is at hand", d, 0, func() { reads(t, p, value, at) })
		p.Forget(at[need/2])
		costs(t, "a read of what is at hand but for one", d, 1, func() { reads(t, p, value, at) })
		hasJust(t, p, at...)
	}
}

// TestReadInASmallPool: pages go in the order in which they were used, so that of a longer chain none is at hand when it is asked for again.
func TestReadInASmallPool(t *testing.T) {
	value, at := mixed(4500, 32), []uint32{7, 3, 9, 2, 5}
	for most := 1; most <= 7; most++ {
		d := loaded(t, 13, sheets(value, at)...)
		p := made(t, d, most)
		again := 5
		if most >= 5 {
			again = 0
		}
		costs(t, "the first read", d, 5, func() { reads(t, p, value, at) })
		hasJust(t, p, at[max(0, 5-most):]...)
		costs(t, "the second read", d, again, func() { reads(t, p, value, at) })
		hasJust(t, p, at[max(0, 5-most):]...)
	}
}

// TestReadUsesPagesInOrder: of a chain that was read, the first page goes first.
func TestReadUsesPagesInOrder(t *testing.T) {
	value, at := mixed(2500, 33), []uint32{5, 9, 4}
	d := loaded(t, 13, append(sheets(value, at), sheet{2, page.Leaf, nil}, sheet{3, page.Leaf, nil}, sheet{6, page.Leaf, nil})...)
	p := made(t, d, 3)
	reads(t, p, value, at)
	for i, other := range []uint32{2, 3, 6} {
		p.Read(other)
		hasJust(t, p, append([]uint32{2, 3, 6}[:i+1:i+1], at[i+1:]...)...)
	}
}

// TestReadThatFails: with each of its operations; that error is told, pages ahead of it are at hand, and the same Read goes well when it is asked again.
func TestReadThatFails(t *testing.T) {
	for _, size := range edges {
		value, need := mixed(size, 34), plainNeed(size)
		at := from(3, need)
		for failing := range need {
			d := loaded(t, 13, sheets(value, at)...)
			p := made(t, d, 9)
			d.Fail(readKind, failing)
			costs(t, "a read that fails", d, failing+1, func() { refusesRead(t, p, 3, uint32(size), api.ErrIO) })
			hasJust(t, p, at[:failing]...)
			costs(t, "the same read again", d, need-failing, func() { reads(t, p, value, at) })
			hasJust(t, p, at...)
		}
	}
}

func TestReadThatFailsInAPoolOfOne(t *testing.T) {
	value, at := mixed(3500, 35), []uint32{8, 2, 7, 4}
	for failing := range 4 {
		d := loaded(t, 13, sheets(value, at)...)
		p := made(t, d, 1)
		d.Fail(readKind, failing)
		costs(t, "a read that fails", d, failing+1, func() { refusesRead(t, p, 8, 3500, api.ErrIO) })
		hasJust(t, p, at[max(0, failing-1):failing]...)
		again := 4
		if failing == 1 {
			again = 3
		}
		costs(t, "the same read again", d, again, func() { reads(t, p, value, at) })
	}
}

// TestReadBehindATrip: pages that are at hand are told also in the dark, and behind a cut all goes well again.
func TestReadBehindATrip(t *testing.T) {
	for _, size := range edges {
		value, need := mixed(size, 36), plainNeed(size)
		at := from(3, need)
		for trip := range need {
			d := loaded(t, 13, sheets(value, at)...)
			p := made(t, d, 9)
			d.Trip(trip)
			costs(t, "a read behind a trip", d, trip, func() { refusesRead(t, p, 3, uint32(size), api.ErrDark) })
			hasJust(t, p, at[:trip]...)
			costs(t, "a read in the dark", d, 0, func() { refusesRead(t, p, 3, uint32(size), api.ErrDark) })
			d.Cut()
			costs(t, "a read behind a cut", d, need-trip, func() { reads(t, p, value, at) })
		}
	}
}

func TestReadOfWhatIsAtHandInTheDark(t *testing.T) {
	value, at := mixed(3500, 37), []uint32{8, 2, 7, 4}
	d := loaded(t, 13, sheets(value, at)...)
	p := made(t, d, 4)
	reads(t, p, value, at)
	d.Fail(readKind, 0)
	d.Trip(0)
	reads(t, p, value, at)
	if d.Dark() {
		t.Error("a read of what is at hand has used up the trip")
	}
	p.Forget(7)
	refusesRead(t, p, 8, 3500, api.ErrDark)
	refusesRead(t, p, 8, 3499, api.ErrDark)
	reads(t, p, value[3012:], []uint32{4})
	d.Cut()
	reads(t, p, value, at)
}

// TestOtherFaultsTouchNoRead: of writes and syncs.
func TestOtherFaultsTouchNoRead(t *testing.T) {
	value, at := mixed(1500, 38), []uint32{8, 2}
	d := loaded(t, 13, sheets(value, at)...)
	d.Fail(2, 0)
	d.Fail(3, 0)
	reads(t, made(t, d, 1), value, at)
	if d.Write(5, make([]byte, 1024)) != api.ErrIO || d.Sync() != api.ErrIO {
		t.Error("a fault of another kind is used up")
	}
}

// TestAWrongPageAheadOfAFault: the fault is not used up.
func TestAWrongPageAheadOfAFault(t *testing.T) {
	value, at := mixed(1500, 39), []uint32{8, 2}
	d := loaded(t, 13, sheets(value, at)...)
	p := made(t, d, 9)
	d.Fail(readKind, 1)
	refusesRead(t, p, 8, 1004, api.ErrOverForm)
	refusesRead(t, p, 8, 1000, api.ErrOverForm)
	refusesRead(t, p, 13, 1000, api.ErrRange)
	refusesRead(t, p, 8, 1500, api.ErrIO)
	reads(t, p, value, at)
}
