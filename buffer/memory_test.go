package buffer_test

import (
	"bytes"
	"slices"
	"testing"

	"codicil/api"
)

func spoilChange(c api.Change) {
	spoil(c.Key)
	spoil(c.Value)
}

func spoilPair(x api.Pair) {
	spoil(x.Key)
	spoil(x.Value)
}

// texts are keys and values as they are handed in, with room behind them.
func texts() []string { return []string{"", "k", "key", "kezzzzzz", "m"} }

// TestWhatIsHandedInStays: it is not changed, nor is what lies behind it, which is not read either.
func TestWhatIsHandedInStays(t *testing.T) {
	for _, text := range texts() {
		w := newTwin(t, example()...)
		key, value := withRoom(text, 30, 'k'), withRoom(text+"v", 30, 'v')
		wholeKey, wholeValue := bytes.Clone(key[:cap(key)]), bytes.Clone(value[:cap(value)])
		w.buffer.Put(key, value)
		w.plain.row = append(w.plain.row, put(text, text+"v"))
		w.alike("k", "key", text+"k")
		w.buffer.Delete(key)
		w.plain.row = append(w.plain.row, gone(text))
		w.alike("k", "key", text+"k")
		w.back(4)
		w.looksFrom(key)
		w.back(0)
		if !bytes.Equal(key[:cap(key)], wholeKey) || !bytes.Equal(value[:cap(value)], wholeValue) {
			t.Errorf("what was handed in for %q has changed", text)
		}
	}
}

// looksFrom asks by a key all that is asked by one, also through the buffer.
func (w *twin) looksFrom(key []byte) {
	w.Helper()
	all := w.plain.all()
	if got, is := w.buffer.Get(key); !same(got, is, all[string(key)], all[string(key)] != said{}) {
		w.Errorf("Get(%q): %s, %v", key, shown(got), is)
	}
	g := groundOf("a", "k", "key", string(key))
	seen := g.seen(all)
	for at, call := range []func([]byte, bool) (api.Change, bool){w.buffer.Next, w.buffer.Prev} {
		s := sides()[at]
		for _, in := range []bool{false, true} {
			want, there := s.key(rising(all), string(key), in)
			if got, is := call(key, in); string(got.Key) != want || is != there {
				w.Errorf("the buffer's %s(%q, %v): %s, %v", s.name, key, in, shown(got), is)
			}
			g.asked = nil
			want, there = s.key(rising(seen), string(key), in)
			if got, is, err := s.call(w.buffer, s.below(g), key, in); !samePair(got, is, err, want, seen[want], there) {
				w.Errorf("%s(%q, %v): %s, %v, %v", s.name, key, in, shownPair(got), is, err)
			}
			if want := s.questions(g, all, string(key), in); !slices.Equal(g.asked, want) {
				w.Errorf("%s(%q, %v) asked %v, not %v", s.name, key, in, g.asked, want)
			}
		}
	}
}

// TestWhatIsHandedInIsNotKept: changed behind the call, it changes nothing of what is said, nor of what is gone back to.
func TestWhatIsHandedInIsNotKept(t *testing.T) {
	w := newTwin(t)
	for range 3 {
		for _, text := range texts() {
			key, value := withRoom(text, 30, 'k'), withRoom(text+"v", 30, 'v')
			w.buffer.Put(key, value)
			w.plain.row = append(w.plain.row, put(text, text+"v"))
			spoil(key)
			spoil(value)
			w.alike(texts()...)
			key = withRoom(text, 30, 'k')
			w.buffer.Delete(key)
			w.plain.row = append(w.plain.row, gone(text))
			spoil(key)
			w.alike(texts()...)
		}
	}
	for mark := w.buffer.Mark(); mark >= 0; mark-- {
		w.back(mark)
		w.alike(texts()...)
	}
}

// TestOneListForAll: all keys and values are handed in by the same memory.
func TestOneListForAll(t *testing.T) {
	w := newTwin(t)
	var memory [8]byte
	for _, text := range []string{"b", "a", "c", "bb", "b", ""} {
		list := memory[:copy(memory[:], text)]
		w.buffer.Put(list, list)
		w.plain.row = append(w.plain.row, put(text, text))
		w.alike("a", "b", "c")
	}
	for mark := 6; mark >= 0; mark-- {
		w.back(mark)
		w.alike("a", "b", "c", "bb", "")
	}
}

// TestWhatComesOutIsNewMemory: of all calls, spoilt in turn with the room behind it; what is told next is right all the same.
func TestWhatComesOutIsNewMemory(t *testing.T) {
	w := newTwin(t, everything()...)
	for _, mark := range []int{w.buffer.Mark(), 12, 5, 1} {
		w.back(mark)
		for _, key := range rising(w.plain.all()) {
			for _, in := range []bool{false, true} {
				for _, call := range []func([]byte, bool) (api.Change, bool){w.buffer.Next, w.buffer.Prev} {
					c, _ := call([]byte(key), in)
					spoilChange(c)
					w.alike("zz")
				}
			}
			c, _ := w.buffer.Get([]byte(key))
			spoilChange(c)
			w.alike("zz")
		}
		l := w.buffer.Changes()
		for at, c := range l {
			spoilChange(c)
			l[at] = api.Change{}
		}
		l = append(l, api.Change{Key: []byte("more")})
		w.alike("zz", "more")
	}
}

// TestWhatComesOutSharesNothing: no two lists of one answer or of two, nor the room behind them.
func TestWhatComesOutSharesNothing(t *testing.T) {
	v := newView(t, groundOf("a", "c"), put("b", "said b"), put("d", "said d"))
	told := func() [][]byte {
		var out [][]byte
		for range 2 {
			for _, c := range v.buffer.Changes() {
				out = append(out, c.Key, c.Value)
			}
			for _, key := range []string{"b", "d"} {
				one, _ := v.buffer.Get([]byte(key))
				two, _ := v.buffer.Next([]byte(key), true)
				three, _ := v.buffer.Prev([]byte(key), true)
				out = append(out, one.Key, one.Value, two.Key, two.Value, three.Key, three.Value)
			}
			for _, key := range []string{"a", "b", "c", "d"} {
				for _, s := range sides() {
					pair, _, _ := s.call(v.buffer, s.below(v.ground), []byte(key), true)
					out = append(out, pair.Key, pair.Value)
				}
			}
		}
		return out
	}
	var want []string
	for _, list := range told() {
		want = append(want, string(list))
	}
	lists := told()
	for at, list := range lists {
		if string(list) != want[at] {
			t.Fatalf("the %d-th list: %q, not %q", at, list, want[at])
		}
		spoil(list)
	}
	lists = told()
	for at, list := range lists {
		lists[at] = append(list, byte(at))
	}
	for at, list := range lists {
		if string(list) != want[at]+string([]byte{byte(at)}) {
			t.Fatalf("room behind the %d-th list is another one's", at)
		}
	}
}

// TestWhatWasToldStays: also when other things are said, or gone back behind.
func TestWhatWasToldStays(t *testing.T) {
	w := newTwin(t, everything()...)
	want := shown(w.buffer.Changes()...)
	l := w.buffer.Changes()
	for _, c := range l {
		w.say(put(string(c.Key), "new"), gone(string(c.Key)), put(string(c.Key)+"x", "new"))
	}
	w.back(3)
	w.say(everything()...)
	w.back(0)
	if got := shown(l...); got != want {
		t.Errorf("%s, not %s", got, want)
	}
}

// TestWhatLiesBelowIsNotChanged, and nothing of its memory comes out: the pairs that it tells are its own.
func TestWhatLiesBelowIsNotChanged(t *testing.T) {
	for _, say := range [][]said{nil, {gone("a"), gone("c")}, {put("b", "said"), put("c", "said")}} {
		w := newTwin(t, say...)
		g := groundOf("a", "b", "c", "d")
		own := map[string]api.Pair{}
		for _, key := range g.keys {
			own[key] = api.Pair{Key: withRoom(key, 9, 'k'), Value: withRoom(g.pairs[key], 9, 'v')}
		}
		for _, s := range sides() {
			tell := s.below(g)
			below := func(from []byte, in bool) (api.Pair, bool, api.Errno) {
				pair, is, err := tell(from, in)
				if !is {
					return pair, is, err
				}
				return own[string(pair.Key)], is, err
			}
			for _, from := range []string{"", "a", "b", "c", "d", "e"} {
				got, _, _ := s.call(w.buffer, below, []byte(from), true)
				spoilPair(got)
			}
		}
		for key, pair := range own {
			if string(pair.Key[:cap(pair.Key)]) != key+"kkkkkkkkk" || string(pair.Value[:cap(pair.Value)]) != g.pairs[key]+"vvvvvvvvv" {
				t.Errorf("behind %s: what lies below at %s has changed", w, key)
			}
		}
	}
}

// TestWhatLiesBelowUsesItsMemoryAgain: what it told last is overwritten when it is asked next, and when the call is over.
func TestWhatLiesBelowUsesItsMemoryAgain(t *testing.T) {
	v := newView(t, groundOf("a", "b", "c", "d", "e"), gone("a"), gone("b"), gone("d"), gone("e"))
	for _, s := range sides() {
		tell := s.below(v.ground)
		key, value := make([]byte, 9), make([]byte, 99)
		below := func(from []byte, in bool) (api.Pair, bool, api.Errno) {
			spoil(key)
			spoil(value)
			pair, is, err := tell(from, in)
			return api.Pair{Key: key[:copy(key, pair.Key)], Value: value[:copy(value, pair.Value)]}, is, err
		}
		v.ground.asked = nil
		got, is, err := s.call(v.buffer, below, nil, true)
		spoil(key)
		spoil(value)
		if !samePair(got, is, err, "c", v.ground.pairs["c"], true) || len(v.ground.asked) != 3 {
			t.Errorf("%s: %s, %v, %v; asked %v", s.name, shownPair(got), is, err, v.ground.asked)
		}
	}
}

// TestWhatLiesBelowKeepsAndSpoilsWhatItIsAsked: the places are its own from then on; neither from, nor what is told, nor what is asked next changes by it.
func TestWhatLiesBelowKeepsAndSpoilsWhatItIsAsked(t *testing.T) {
	v := newView(t, groundOf("a", "b", "c", "d", "e"), gone("a"), gone("b"), gone("d"), gone("e"), put("bb", "said"), gone("bb"))
	for _, s := range sides() {
		tell := s.below(v.ground)
		var places [][]byte
		below := func(from []byte, in bool) (api.Pair, bool, api.Errno) {
			pair, is, err := tell(from, in)
			for _, place := range append(places, from) {
				spoil(place)
			}
			places = append(places, from)
			return pair, is, err
		}
		for _, x := range []struct{ from, key string }{{"", "c"}, {"c", "c"}, {map[string]string{"Next": "a", "Prev": "e"}[s.name], "c"}} {
			from := withRoom(x.from, 9, 'k')
			v.ground.asked = nil
			want := s.questions(v.ground, v.plain.all(), x.from, true)
			got, is, err := s.call(v.buffer, below, from, true)
			if !samePair(got, is, err, x.key, v.ground.pairs[x.key], true) || len(v.ground.asked) != len(want) {
				t.Errorf("%s(%q): %s, %v, %v; asked %v", s.name, x.from, shownPair(got), is, err, v.ground.asked)
			}
			if string(from[:cap(from)]) != x.from+"kkkkkkkkk" {
				t.Errorf("%s(%q): from has changed", s.name, x.from)
			}
		}
		for _, place := range places {
			spoil(place)
		}
	}
	v.tellsAll()
	v.alike()
}
