package disk_test

import (
	"testing"

	"codicil/api"
	"codicil/disk"
)

// once does an operation of a kind that is right in itself.
func once(d *disk.Disk, kind int) api.Errno {
	switch kind {
	case kindRead:
		_, err := d.Read(0)
		return err
	case kindWrite:
		return d.Write(0, sector('w'))
	default:
		return d.Sync()
	}
}

func TestTripLetsSoManyBeDone(t *testing.T) {
	for n := range 9 {
		for shift := range 3 {
			d := loaded(t, page('p'))
			answers(t, "a trip", d.Trip(n), api.OK)
			isDark(t, d, false)
			var done [4]int
			for at := range n {
				kind := (at+shift)%3 + 1
				answers(t, "an operation ahead of the trip", once(d, kind), api.OK)
				done[kind]++
				isDark(t, d, false)
			}
			image, waiting := d.Image(), d.Pending()
			for at := range 4 {
				answers(t, "an operation behind the trip", once(d, (at+n+shift)%3+1), api.ErrDark)
				isDark(t, d, true)
				counts(t, d, done[1], done[2], done[3])
				lasts(t, d, image)
				waits(t, d, waiting...)
			}
		}
	}
}

func TestTripCountsOperationsThatFail(t *testing.T) {
	d := made(t, 1)
	d.Trip(4)
	refusesRead(t, d, 1, api.ErrRange)
	answers(t, "a write of no page", d.Write(-1, page('a')), api.ErrRange)
	answers(t, "a write of three bytes", d.Write(0, full(3, 'a')), api.ErrArg)
	d.Fail(kindSync, 0)
	answers(t, "a sync with a fault", d.Sync(), api.ErrIO)
	isDark(t, d, false)
	answers(t, "a sync behind the trip", d.Sync(), api.ErrDark)
	isDark(t, d, true)
	counts(t, d, 1, 2, 1)
}

func TestTripCountsOperationsAlone(t *testing.T) {
	d := made(t, 1)
	d.Trip(1)
	d.Pages()
	d.Dark()
	d.Pending()
	d.Image()
	d.Counts()
	d.Fail(kindRead, 5)
	d.Fail(9, 5)
	answers(t, "the one operation", d.Sync(), api.OK)
	answers(t, "the one behind it", d.Sync(), api.ErrDark)
}

func TestTripInThePlaceOfAnother(t *testing.T) {
	for _, c := range []struct{ first, done, second int }{{0, 0, 2}, {5, 0, 0}, {5, 3, 5}, {1, 1, 1}, {2, 1, 0}, {1 << 40, 3, 1}} {
		d := made(t, 1)
		answers(t, "the first trip", d.Trip(c.first), api.OK)
		for range c.done {
			answers(t, "an operation ahead of the second trip", d.Sync(), api.OK)
		}
		answers(t, "the second trip", d.Trip(c.second), api.OK)
		for range c.second {
			answers(t, "an operation ahead of the end", d.Sync(), api.OK)
		}
		answers(t, "an operation at the end", d.Sync(), api.ErrDark)
		counts(t, d, 0, 0, c.done+c.second)
	}
}

func TestTripThatIsRefused(t *testing.T) {
	d := made(t, 1)
	for _, n := range []int{-1, -2, -1 << 63} {
		answers(t, "a trip below 0", d.Trip(n), api.ErrArg)
	}
	answers(t, "a sync without a trip", d.Sync(), api.OK)
	d.Trip(1)
	answers(t, "a trip below 0", d.Trip(-1), api.ErrArg)
	answers(t, "a sync ahead of the elder trip", d.Sync(), api.OK)
	answers(t, "a sync at the elder trip", d.Sync(), api.ErrDark)
	answers(t, "a trip in the dark", d.Trip(0), api.ErrDark)
	answers(t, "a trip in the dark", d.Trip(7), api.ErrDark)
	answers(t, "a trip below 0 in the dark", d.Trip(-1), api.ErrArg)
	isDark(t, d, true)
	d.Cut()
	for range 9 {
		answers(t, "a sync behind the cut", d.Sync(), api.OK)
	}
}

func TestTripHitsOnce(t *testing.T) {
	d := made(t, 1)
	d.Trip(0)
	answers(t, "a sync at the trip", d.Sync(), api.ErrDark)
	d.Cut()
	answers(t, "a sync behind the cut", d.Sync(), api.OK)
	isDark(t, d, false)
}

func TestNothingChangesInTheDark(t *testing.T) {
	d := loaded(t, pages('p', 'q'))
	d.Write(0, sector('a'))
	d.Trip(1)
	d.Write(1, sector('b'))
	for range 3 {
		answers(t, "a sync", d.Sync(), api.ErrDark)
		answers(t, "a write", d.Write(0, page('c')), api.ErrDark)
		refusesRead(t, d, 0, api.ErrDark)
		answers(t, "a fault", d.Fail(kindRead, 0), api.ErrDark)
		answers(t, "a trip", d.Trip(0), api.ErrDark)
		waits(t, d, 0, 8)
		lasts(t, d, pages('p', 'q'))
		counts(t, d, 0, 2, 0)
		isDark(t, d, true)
		if d.Pages() != 2 {
			t.Error("pages are gone in the dark")
		}
	}
	d.Cut(false, true)
	lasts(t, d, sectors('p', 'p', 'p', 'p', 'p', 'p', 'p', 'p', 'b', 'q', 'q', 'q', 'q', 'q', 'q', 'q'))
	reads(t, d, 0, page('p'))
	counts(t, d, 1, 2, 0)
}

func TestFaultOfEachKind(t *testing.T) {
	for kind := kindRead; kind <= kindSync; kind++ {
		for n := range 5 {
			d := made(t, 1)
			answers(t, "a fault", d.Fail(kind, n), api.OK)
			for range n {
				answers(t, "one that still goes well", once(d, kind), api.OK)
			}
			for other := kindRead; other <= kindSync; other++ {
				if other != kind {
					answers(t, "one of another kind", once(d, other), api.OK)
				}
			}
			answers(t, "the one that fails", once(d, kind), api.ErrIO)
			for range n + 3 {
				answers(t, "one behind it", once(d, kind), api.OK)
			}
			want := [4]int{0, 1, 1, 1}
			want[kind] = 2*n + 4
			counts(t, d, want[1], want[2], want[3])
			isDark(t, d, false)
		}
	}
}

func TestOperationThatFailsDoesNothing(t *testing.T) {
	d := loaded(t, page('p'))
	d.Write(0, sector('a'))
	now := sectors('a', 'p', 'p', 'p', 'p', 'p', 'p', 'p')
	d.Fail(kindRead, 0)
	refusesRead(t, d, 0, api.ErrIO)
	reads(t, d, 0, now)
	d.Fail(kindWrite, 0)
	answers(t, "a write", d.Write(0, page('b')), api.ErrIO)
	waits(t, d, 0)
	reads(t, d, 0, now)
	d.Fail(kindSync, 0)
	answers(t, "a sync", d.Sync(), api.ErrIO)
	waits(t, d, 0)
	lasts(t, d, page('p'))
	counts(t, d, 3, 2, 1)
	answers(t, "a sync behind it", d.Sync(), api.OK)
	lasts(t, d, now)
	waits(t, d)
	counts(t, d, 3, 2, 2)
}

func TestFaultIsUsedUpByOperationsThatFail(t *testing.T) {
	d := made(t, 1)
	d.Fail(kindWrite, 2)
	answers(t, "a write of no page", d.Write(1, page('a')), api.ErrRange)
	answers(t, "a write of three bytes", d.Write(0, full(3, 'a')), api.ErrArg)
	answers(t, "the write behind them", d.Write(0, page('a')), api.ErrIO)
	d.Fail(kindRead, 1)
	refusesRead(t, d, -1, api.ErrRange)
	refusesRead(t, d, 0, api.ErrIO)
	counts(t, d, 2, 3, 0)
}

func TestFaultInThePlaceOfAnother(t *testing.T) {
	for kind := kindRead; kind <= kindSync; kind++ {
		for _, c := range []struct{ first, done, second int }{{0, 0, 2}, {3, 0, 0}, {3, 2, 3}, {1, 1, 1}, {1 << 40, 1, 0}} {
			d := made(t, 1)
			d.Fail(kind, c.first)
			for range c.done {
				answers(t, "one ahead of the second fault", once(d, kind), api.OK)
			}
			answers(t, "the second fault", d.Fail(kind, c.second), api.OK)
			for range c.second {
				answers(t, "one that still goes well", once(d, kind), api.OK)
			}
			answers(t, "the one that fails", once(d, kind), api.ErrIO)
			for range 5 {
				answers(t, "one behind it", once(d, kind), api.OK)
			}
		}
	}
}

func TestFaultThatIsRefused(t *testing.T) {
	d := made(t, 1)
	wrong := func() {
		t.Helper()
		for _, kind := range []int{0, 4, 5, -1, -3, 257, 1 << 32, 1<<32 + 1, 1<<63 - 1, -1 << 63} {
			answers(t, "a fault of no kind", d.Fail(kind, 0), api.ErrArg)
			answers(t, "a fault of no kind, below 0", d.Fail(kind, -1), api.ErrArg)
		}
		for kind := kindRead; kind <= kindSync; kind++ {
			answers(t, "a fault below 0", d.Fail(kind, -1), api.ErrArg)
			answers(t, "a fault below 0", d.Fail(kind, -1<<63), api.ErrArg)
		}
	}
	wrong()
	for kind := kindRead; kind <= kindSync; kind++ {
		answers(t, "one without a fault", once(d, kind), api.OK)
		d.Fail(kind, 1)
	}
	wrong()
	for kind := kindRead; kind <= kindSync; kind++ {
		answers(t, "one ahead of the elder fault", once(d, kind), api.OK)
		answers(t, "one at the elder fault", once(d, kind), api.ErrIO)
	}
	d.Trip(0)
	d.Sync()
	wrong()
	for kind := kindRead; kind <= kindSync; kind++ {
		answers(t, "a fault in the dark", d.Fail(kind, 0), api.ErrDark)
		answers(t, "a fault in the dark", d.Fail(kind, 3), api.ErrDark)
	}
	d.Cut()
	for kind := kindRead; kind <= kindSync; kind++ {
		answers(t, "one behind the cut", once(d, kind), api.OK)
	}
}

func TestFaultsOfSeveralKinds(t *testing.T) {
	d := made(t, 1)
	d.Fail(kindRead, 1)
	d.Fail(kindWrite, 0)
	d.Fail(kindSync, 2)
	for _, step := range []struct {
		kind int
		want api.Errno
	}{
		{kindSync, api.OK}, {kindRead, api.OK}, {kindWrite, api.ErrIO}, {kindWrite, api.OK}, {kindSync, api.OK},
		{kindRead, api.ErrIO}, {kindSync, api.ErrIO}, {kindRead, api.OK}, {kindSync, api.OK}, {kindWrite, api.OK},
	} {
		answers(t, "an operation", once(d, step.kind), step.want)
	}
	counts(t, d, 3, 3, 4)
}

func TestFaultAndTripTogether(t *testing.T) {
	d := made(t, 1)
	d.Fail(kindWrite, 1)
	d.Trip(3)
	answers(t, "the first write", once(d, kindWrite), api.OK)
	answers(t, "the second write", once(d, kindWrite), api.ErrIO)
	answers(t, "the third write", once(d, kindWrite), api.OK)
	answers(t, "the fourth write", once(d, kindWrite), api.ErrDark)
	counts(t, d, 0, 3, 0)

	d = made(t, 1)
	d.Fail(kindSync, 0)
	d.Trip(0)
	answers(t, "a sync with both", d.Sync(), api.ErrDark)
	answers(t, "a sync in the dark", d.Sync(), api.ErrDark)
	counts(t, d, 0, 0, 0)
}

func TestCutTakesTripAndFaultsAway(t *testing.T) {
	for _, dark := range []bool{false, true} {
		d := made(t, 1)
		for kind := kindRead; kind <= kindSync; kind++ {
			d.Fail(kind, 0)
		}
		d.Trip(0)
		if dark {
			d.Sync()
		}
		isDark(t, d, dark)
		d.Cut()
		isDark(t, d, false)
		for range 3 {
			for kind := kindRead; kind <= kindSync; kind++ {
				answers(t, "an operation behind the cut", once(d, kind), api.OK)
			}
		}
		counts(t, d, 3, 3, 3)
		answers(t, "a trip behind the cut", d.Trip(1), api.OK)
		answers(t, "a fault behind the cut", d.Fail(kindRead, 0), api.OK)
		answers(t, "a read with it", once(d, kindRead), api.ErrIO)
		answers(t, "a read behind the trip", once(d, kindRead), api.ErrDark)
	}
}

func TestGreatTripsAndFaults(t *testing.T) {
	d := made(t, 1)
	answers(t, "a great trip", d.Trip(1<<63-1), api.OK)
	answers(t, "a great fault", d.Fail(kindWrite, 1<<63-1), api.OK)
	for range 100 {
		answers(t, "a write", once(d, kindWrite), api.OK)
	}
	isDark(t, d, false)
}
