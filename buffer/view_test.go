package buffer_test

import (
	"fmt"
	"math/rand"
	"testing"

	"codicil/api"
	"codicil/buffer"
)

// exampleView is the second example's.
func exampleView(t testing.TB) view {
	t.Helper()
	return newView(t, newGround(map[string]string{"b": "5", "c": "6", "d": "7"}), example()...)
}

func TestSecondExample(t *testing.T) {
	v := exampleView(t)
	for _, x := range []struct {
		from       string
		in         bool
		key, value string
	}{{"", true, "a", "2"}, {"a", false, "b", "1"}, {"b", false, "d", "7"}, {"d", false, "", ""}} {
		got, is, err := buffer.Next(v.buffer, v.ground.next, []byte(x.from), x.in)
		if !samePair(got, is, err, x.key, x.value, x.key != "") {
			t.Errorf("Next(%q, %v): %s, %v, %v", x.from, x.in, shownPair(got), is, err)
		}
	}
	for _, x := range []struct {
		from       string
		in         bool
		key, value string
	}{{"", true, "d", "7"}, {"d", false, "b", "1"}, {"b", false, "a", "2"}, {"a", false, "", ""}} {
		got, is, err := buffer.Prev(v.buffer, v.ground.prev, []byte(x.from), x.in)
		if !samePair(got, is, err, x.key, x.value, x.key != "") {
			t.Errorf("Prev(%q, %v): %s, %v, %v", x.from, x.in, shownPair(got), is, err)
		}
	}
	v.tellsAll()
	v.walks()
}

// TestAllSmallViews goes through all that may lie below, and be said, of five keys: from each key and beside it, both ways, with what is asked.
func TestAllSmallViews(t *testing.T) {
	keys := []string{"", "a", "a\x00", "b", "\xff"}
	rows := 1
	for range keys {
		rows *= 6
	}
	for row := range rows {
		pairs := map[string]string{}
		var l []said
		for at, key := range keys {
			if row%2 == 1 {
				pairs[key] = fmt.Sprint("below ", at)
			}
			switch row / 2 % 3 {
			case 1:
				l = append(l, put(key, fmt.Sprint("said ", at)))
			case 2:
				l = append(l, gone(key))
			}
			row /= 6
		}
		v := newView(t, newGround(pairs), l...)
		v.tells("", "\x00", "a", "a\x00", "a\x00\x00", "b", "c", "\xff", "\xff\x00")
		v.walks()
	}
}

func TestNothingIsSaid(t *testing.T) {
	for _, keys := range [][]string{nil, {""}, {"k"}, oddKeys()} {
		v := newView(t, groundOf(keys...))
		v.tellsAll()
		v.walks()
	}
}

func TestNothingLiesBelow(t *testing.T) {
	for _, l := range [][]said{nil, {put("", "")}, {gone("")}, {put("k", "1")}, {gone("k")}, example(), everything()} {
		v := newView(t, groundOf(), l...)
		v.tellsAll()
		v.walks()
	}
}

// TestAllThatLiesBelowIsDeleted: it is asked for key by key, and nothing is left, or just what is put among it.
func TestAllThatLiesBelowIsDeleted(t *testing.T) {
	keys := oddKeys()
	v := newView(t, groundOf(keys...))
	for _, key := range keys {
		v.say(gone(key))
	}
	v.tellsAll()
	v.walks()
	for _, key := range []string{"a\x00\x01", "\x00\x00\x00", "\xff\xff\xff\xff", "a\x00"} {
		v.say(put(key, "new"))
		v.tellsAll()
		v.walks()
	}
	v.say(gone("a\x00\x01"), gone("\x00\x00\x00"), gone("\xff\xff\xff\xff"), gone("a\x00"))
	v.tellsAll()
	v.walks()
}

// TestManyDeletedOnesBehindOneAnother: one call goes over all of them.
func TestManyDeletedOnesBehindOneAnother(t *testing.T) {
	const many = 3000
	pairs := map[string]string{"": "first", "z": "last"}
	var l []said
	for i := range many {
		key := fmt.Sprintf("k%05d", i)
		pairs[key] = "below"
		l = append(l, gone(key))
	}
	v := newView(t, newGround(pairs), l...)
	got, is, err := buffer.Next(v.buffer, v.ground.next, nil, false)
	if !samePair(got, is, err, "z", "last", true) || len(v.ground.asked) != many+1 {
		t.Errorf("Next: %s, %v, %v behind %d questions", shownPair(got), is, err, len(v.ground.asked))
	}
	v.ground.asked = nil
	got, is, err = buffer.Prev(v.buffer, v.ground.prev, []byte("z"), false)
	if !samePair(got, is, err, "", "first", true) || len(v.ground.asked) != many+1 {
		t.Errorf("Prev: %s, %v, %v behind %d questions", shownPair(got), is, err, len(v.ground.asked))
	}
	v.say(gone(""), gone("z"))
	v.ground.asked = nil
	for _, s := range sides() {
		if got, is, err := s.call(v.buffer, s.below(v.ground), nil, true); !samePair(got, is, err, "", "", false) {
			t.Errorf("%s: %s, %v, %v", s.name, shownPair(got), is, err)
		}
	}
	if len(v.ground.asked) != 2*(many+3) {
		t.Errorf("%d questions", len(v.ground.asked))
	}
	v.say(put("k01500x", "between"))
	v.tells("", "k01499", "k01500", "k01500x", "k01501", "z")
	v.walks()
}

// TestPutsOfTheSameKeys: the buffer's value is seen, also an empty one, and none of below's.
func TestPutsOfTheSameKeys(t *testing.T) {
	v := newView(t, groundOf("a", "b", "c"), put("a", ""), put("b", "said"), gone("c"), put("c", "again"))
	v.tellsAll()
	v.walks()
	v.say(gone("b"), gone("a"), gone("c"))
	v.tellsAll()
	v.walks()
}

// TestPutsBesideAndBetween: ahead of all that lies below, behind all, and between each two.
func TestPutsBesideAndBetween(t *testing.T) {
	below := []string{"b", "d", "f"}
	between := []string{"a", "c", "e", "g"}
	for row := range 3 * 3 * 3 * 3 {
		var l []said
		for _, key := range between {
			switch row % 3 {
			case 1:
				l = append(l, put(key, "said"))
			case 2:
				l = append(l, gone(key))
			}
			row /= 3
		}
		for gones := range 8 {
			v := newView(t, groundOf(below...), l...)
			for at, key := range below {
				if gones>>at&1 == 1 {
					v.say(gone(key))
				}
			}
			v.tells("", "a", "b", "c", "d", "e", "f", "g", "h")
			v.walks()
		}
	}
}

// TestDrawnViews: long ones of odd keys and of many, also behind Backs.
func TestDrawnViews(t *testing.T) {
	odd := oddKeys()[:23]
	for seed := range int64(150) {
		r := rand.New(rand.NewSource(seed))
		key := func() string {
			if seed%2 == 0 {
				return odd[r.Intn(len(odd))]
			}
			return fmt.Sprintf("%02x", r.Intn(256))
		}
		pairs := map[string]string{}
		for range r.Intn(60) {
			pairs[key()] = fmt.Sprint("below ", r.Intn(9))
		}
		v := newView(t, newGround(pairs))
		deletes := 1 + r.Intn(4)
		for range 1 + r.Intn(120) {
			if r.Intn(5) < deletes {
				v.say(gone(key()))
			} else {
				v.say(put(key(), fmt.Sprint("said ", r.Intn(9))))
			}
		}
		v.tellsAll()
		v.walks()
		v.back(r.Intn(len(v.plain.row) + 1))
		v.tellsAll()
		v.walks()
	}
}

// TestBuffersOverBuffers: what lies below may be seen through another buffer.
func TestBuffersOverBuffers(t *testing.T) {
	for seed := range int64(60) {
		r := rand.New(rand.NewSource(seed))
		key := func() string { return fmt.Sprintf("%x", r.Intn(40)) }
		g := newGround(map[string]string{})
		for range 20 {
			g.pairs[key()] = "below"
		}
		g.keys = rising(g.pairs)
		next, prev, seen := g.next, g.prev, g.pairs
		for floor := range 4 {
			w := newTwin(t)
			for range 15 {
				if r.Intn(2) == 0 {
					w.say(gone(key()))
				} else {
					w.say(put(key(), fmt.Sprint("floor ", floor)))
				}
			}
			seen = newGround(seen).seen(w.plain.all())
			lowerNext, lowerPrev := next, prev
			next = func(from []byte, in bool) (api.Pair, bool, api.Errno) {
				return buffer.Next(w.buffer, lowerNext, from, in)
			}
			prev = func(from []byte, in bool) (api.Pair, bool, api.Errno) {
				return buffer.Prev(w.buffer, lowerPrev, from, in)
			}
		}
		keys := rising(seen)
		for at := range 42 {
			from := fmt.Sprintf("%x", at)
			for _, in := range []bool{false, true} {
				want, there := keyAfter(keys, from, in)
				if got, is, err := next([]byte(from), in); !samePair(got, is, err, want, seen[want], there) {
					t.Fatalf("Next(%s, %v): %s, %v, %v", from, in, shownPair(got), is, err)
				}
				want, there = keyAhead(keys, from, in)
				if got, is, err := prev([]byte(from), in); !samePair(got, is, err, want, seen[want], there) {
					t.Fatalf("Prev(%s, %v): %s, %v, %v", from, in, shownPair(got), is, err)
				}
			}
		}
	}
}

// TestLookingThroughSaysNothing: the buffer is as it was, and a mark too.
func TestLookingThroughSaysNothing(t *testing.T) {
	v := exampleView(t)
	for range 3 {
		v.tellsAll()
		v.alike("", "a", "b", "c", "d")
	}
	v.back(1)
	v.tellsAll()
	v.alike("", "a", "b", "c", "d")
}

// TestFromListsAndEmptyOnes: no from, and one without bytes, are the same.
func TestFromListsAndEmptyOnes(t *testing.T) {
	v := newView(t, groundOf("", "b", "d"), gone("b"), put("c", "3"), gone("e"))
	for _, from := range [][]byte{nil, {}, withRoom("", 9, 'c')} {
		for _, x := range []struct {
			side int
			in   bool
			key  string
			is   bool
		}{{0, true, "", true}, {0, false, "c", true}, {1, true, "d", true}, {1, false, "", false}} {
			s := sides()[x.side]
			got, is, err := s.call(v.buffer, s.below(v.ground), from, x.in)
			if string(got.Key) != x.key || is != x.is || err != api.OK {
				t.Errorf("%s(empty, %v): %s, %v, %v", s.name, x.in, shownPair(got), is, err)
			}
		}
	}
}
