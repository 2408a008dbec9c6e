package commit_test

import (
	"bytes"
	"slices"
	"strings"
	"testing"

	"codicil/api"
)

// withRoom is a list with others of some kind in the room behind it.
func withRoom[T any](l []T, room int, fill T) []T {
	out := append(make([]T, 0, len(l)+room), l...)
	for at := len(l); at < cap(out); at++ {
		out[:cap(out)][at] = fill
	}
	return out
}

// roomy are changes whose lists, and the list of them, have other things in the room behind them.
func roomy(l []api.Change) []api.Change {
	var out []api.Change
	for _, c := range l {
		out = append(out, api.Change{Key: withRoom(c.Key, 200, '!'), Value: withRoom(c.Value, 9000, '?'), Delete: c.Delete})
	}
	return withRoom(out, 5, api.Change{Key: []byte("room"), Value: []byte("behind")})
}

// whole is all memory of changes, with the rooms.
func whole(l []api.Change) []api.Change {
	var out []api.Change
	for _, c := range l[:cap(l)] {
		out = append(out, api.Change{Key: bytes.Clone(c.Key[:cap(c.Key)]), Value: bytes.Clone(c.Value[:cap(c.Value)]), Delete: c.Delete})
	}
	return out
}

func sameChange(a, b api.Change) bool {
	return bytes.Equal(a.Key, b.Key) && bytes.Equal(a.Value, b.Value) && a.Delete == b.Delete
}

// overwrite changes all memory of a list, with the room behind it.
func overwrite(b []byte) {
	for at := range b[:cap(b)] {
		b[:cap(b)][at] ^= 0x5a
	}
}

// TestApplyNeitherChangesNorKeeps what is handed in, nor reads the room behind it; also where it is refused or fails.
func TestApplyNeitherChangesNorKeeps(t *testing.T) {
	long := strings.Repeat("k", 160)
	batch := []api.Change{put("a", "1"), put("b", mixed(64, 1)), put(long, mixed(8192, 2)), put("c", mixed(65, 3)), del("d"), put("", "")}
	for _, fault := range []api.Errno{api.OK, api.ErrIO, api.ErrDark, api.ErrKeyLong, api.ErrDocLong} {
		g := newGround(t, 300)
		g.must(put("d", mixed(1005, 4)), put("e", "5"))
		want := batch[:5]
		l := roomy(want)
		switch fault {
		case api.ErrIO:
			g.disk.Fail(syncKind, 0)
		case api.ErrDark:
			g.disk.Trip(3)
		case api.ErrKeyLong:
			l = roomy(batch)
		case api.ErrDocLong:
			l = roomy(append(slices.Clone(want), put("v", mixed(8193, 1))))
		}
		before := whole(l)
		if err := g.store.Apply(l); err != fault {
			t.Errorf("%v, not %v", err, fault)
		}
		if !slices.EqualFunc(whole(l), before, sameChange) {
			t.Errorf("behind %v what was handed in has changed", fault)
		}
		for i := range l[:cap(l)] {
			c := l[:cap(l)][i]
			overwrite(c.Key)
			overwrite(c.Value)
			l[:cap(l)][i] = put("other", "other")
		}
		if fault == api.OK {
			g.now = changed(g.now, want)
		}
		g.disk.Cut()
		g.reread()
		g.all()
		g.must(put("z", "1"))
		g.all()
	}
}

// TestWhatComesOutIsItsOwners: changed afterwards, it changes nothing of what is told next.
func TestWhatComesOutIsItsOwners(t *testing.T) {
	g := newGround(t, 300)
	g.must(put("a", "1"), put("b", mixed(64, 1)), put("c", mixed(65, 2)), put("d", mixed(8192, 3)), put("e", ""))
	v := g.snap()
	for range 3 {
		for key, want := range v.pairs {
			from := withRoom([]byte(key), 20, '!')
			value, _, _ := v.Get(from)
			pair, _, _ := v.Next(from, true)
			other, _, _ := v.Prev(from, true)
			if string(from) != key || string(from[:cap(from)]) != key+strings.Repeat("!", 20) {
				t.Error("what was handed in has changed")
			}
			apart(t, want, value, pair.Value, other.Value)
			apart(t, key, pair.Key, other.Key, from)
			for _, b := range [][]byte{value, pair.Key, pair.Value, other.Key, other.Value, from} {
				overwrite(b)
			}
		}
		g.all()
		g.must(put("f", "6"))
		g.all()
	}
}

// apart looks whether lists that are the same stay so while each one's memory, with its room, is changed.
func apart(t *testing.T, want string, l ...[]byte) {
	t.Helper()
	for i, one := range l {
		if string(one) != want {
			t.Errorf("%d bytes, not %d", len(one), len(want))
		}
		overwrite(one)
		for j, other := range l {
			if i != j && string(other) != want {
				t.Error("two lists share memory")
			}
		}
		overwrite(one)
	}
}

// TestSpaceIsToldAnew: what was told stays, and a store knows nothing of another one.
func TestSpaceIsToldAnew(t *testing.T) {
	g, other := newGround(t, 50), newGround(t, 60)
	before := g.store.Space()
	other.must(put("a", "1"))
	other.snap()
	g.all()
	if g.store.Space() != before {
		t.Errorf("%+v, not %+v", g.store.Space(), before)
	}
	g.must(put("a", mixed(2000, 1)))
	other.all()
	if before != (api.Space{Pages: 50, Free: 48, Current: 1}) {
		t.Errorf("%+v", before)
	}
}
