package commit_test

import (
	"testing"

	"codicil/api"
)

// TestCrashesOfApply: behind each number of operations, with all kinds of cuts.
func TestCrashesOfApply(t *testing.T) {
	for _, c := range scenes(t) {
		cost, _ := c.costs(t)
		total := cost.Reads + cost.Writes + cost.Syncs
		for n := range total + 1 {
			for _, keep := range keeps(8*cost.Writes, int64(n)) {
				c.crash(t, n, total, keep)
			}
		}
	}
}

func TestCrashesOfApplyWithManyPages(t *testing.T) {
	c := manyPages(t)
	cost, _ := c.costs(t)
	total := cost.Reads + cost.Writes + cost.Syncs
	for n := total + 1; n >= 0; n -= 3 {
		for _, keep := range keeps(8*cost.Writes, int64(n))[:3] {
			c.crash(t, n, total, keep)
		}
	}
}

// crash is an Apply during which the power goes, behind n of its operations.
func (c scene) crash(t *testing.T, n, total int, keep []bool) {
	t.Helper()
	d, s := c.open(t)
	d.Trip(n)
	want, breaks := api.ErrDark, n == total-2 || n == total-1
	if n >= total {
		want = api.OK
	}
	applies(t, s, want, c.l...)
	if s.Space().Broken != breaks {
		t.Errorf("%s, trip %d of %d: %+v", c.name, n, total, s.Space())
	}
	d.Cut(keep...)
	switch {
	case want == api.OK:
		sound(t, d, c.new)
	case n < total-1 || len(keep) == 0:
		sound(t, d, c.old)
	default:
		sound(t, d, c.old, c.new)
	}
	if t.Failed() {
		t.Fatalf("%s, trip %d of %d, kept %v", c.name, n, total, keep)
	}
}

// TestGoingOnBehindACut: a store that is not broken needs not be opened again.
func TestGoingOnBehindACut(t *testing.T) {
	for _, c := range scenes(t) {
		cost, space := c.costs(t)
		total := cost.Reads + cost.Writes + cost.Syncs
		for n := range total - 2 {
			for _, keep := range keeps(8*cost.Writes, int64(n)) {
				d, s := c.open(t)
				reader := s.Snap()
				d.Trip(n)
				applies(t, s, api.ErrDark, c.l...)
				applies(t, s, api.ErrDark, c.l...)
				d.Cut(keep...)
				tells(t, reader, c.last, c.old)
				reader.Drop()
				c.isOld(t, s)
				applies(t, s, api.OK, c.l...)
				c.isNew(t, s)
				if got := s.Space(); got != space {
					t.Errorf("%s: %+v, not %+v", c.name, got, space)
				}
				sound(t, d, c.new)
			}
		}
	}
}

// TestOpenTwice: the same is there.
func TestOpenTwice(t *testing.T) {
	for _, c := range scenes(t) {
		d, s := c.open(t)
		space := s.Space()
		for range 3 {
			s = opened(t, d)
			c.isOld(t, s)
			if got := s.Space(); got != space || got.Held != 0 {
				t.Errorf("%s: %+v, not %+v", c.name, got, space)
			}
		}
		applies(t, s, api.OK, c.l...)
		c.isNew(t, opened(t, d))
	}
}
