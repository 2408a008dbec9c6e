package buffer_test

import (
	"fmt"
	"math"
	"slices"
	"strings"
	"testing"

	"codicil/api"
	"codicil/buffer"
)

// TestWhatIsAsked, told by hand for each case that the chapter names.
func TestWhatIsAsked(t *testing.T) {
	l := []said{put("a", "1"), gone("b"), gone("c"), gone("e"), put("g", "7"), gone("h"), gone("i"), put("k", "9")}
	v := newView(t, groundOf("b", "c", "d", "e", "g", "h"), l...)
	for _, x := range []struct {
		side  int
		from  string
		in    bool
		key   string
		asked string
	}{
		{0, "", true, "a", `"" true`}, // a put ahead of a deleted key
		{0, "", false, "a", `"" false`},
		{0, "a", true, "a", `"a" true`}, // a put at the place
		{0, "a", false, "d", `"a" false "b" false "c" false`},
		{0, "b", true, "d", `"b" true "b" false "c" false`},
		{0, "b", false, "d", `"b" false "c" false`},
		{0, "c", false, "d", `"c" false`}, // told at once
		{0, "d", true, "d", `"d" true`},
		{0, "d", false, "g", `"d" false "e" false`}, // a put of the key that is told
		{0, "f", false, "g", `"f" false`},
		{0, "g", false, "k", `"g" false "h" false`}, // nothing is left below
		{0, "h", true, "k", `"h" true "h" false`},
		{0, "i", true, "k", `"i" true`},
		{0, "k", false, "", `"k" false`},
		{1, "", true, "k", `"" true`}, // a put behind a deleted key
		{1, "", false, "", `"" false`},
		{1, "k", true, "k", `"k" true`}, // a put at the place
		{1, "k", false, "g", `"k" false "h" false`},
		{1, "i", true, "g", `"i" true "h" false`},
		{1, "h", true, "g", `"h" true "h" false`},
		{1, "h", false, "g", `"h" false`}, // a put of the key that is told
		{1, "g", false, "d", `"g" false "e" false`},
		{1, "e", true, "d", `"e" true "e" false`},
		{1, "d", true, "d", `"d" true`}, // told at once
		{1, "d", false, "a", `"d" false "c" false "b" false`},
		{1, "c", false, "a", `"c" false "b" false`}, // nothing is left below
		{1, "b", false, "a", `"b" false`},
		{1, "a", false, "", `"a" false`},
	} {
		s := sides()[x.side]
		v.ground.asked = nil
		got, is, err := s.call(v.buffer, s.below(v.ground), []byte(x.from), x.in)
		asked := strings.Trim(fmt.Sprint(v.ground.asked), "[]")
		if string(got.Key) != x.key || is != (x.key != "") || err != api.OK || asked != x.asked {
			t.Errorf("%s(%q, %v): %s, %v, %v; asked %s", s.name, x.from, x.in, shownPair(got), is, err, asked)
		}
	}
	v.tellsAll()
}

// TestTheEmptyKeyIsDeletedBelow: also behind it, falling, it is asked once more.
func TestTheEmptyKeyIsDeletedBelow(t *testing.T) {
	v := newView(t, groundOf("", "b"), gone(""), gone("b"))
	for _, x := range []struct {
		side  int
		from  string
		in    bool
		asked string
	}{
		{0, "", true, `"" true "" false "b" false`},
		{0, "", false, `"" false "b" false`},
		{1, "", true, `"" true "b" false "" false`},
		{1, "", false, `"" false`},
		{1, "a", false, `"a" false "" false`},
	} {
		s := sides()[x.side]
		v.ground.asked = nil
		got, is, err := s.call(v.buffer, s.below(v.ground), []byte(x.from), x.in)
		if asked := strings.Trim(fmt.Sprint(v.ground.asked), "[]"); !samePair(got, is, err, "", "", false) || asked != x.asked {
			t.Errorf("%s(%q, %v): %s, %v, %v; asked %s", s.name, x.from, x.in, shownPair(got), is, err, asked)
		}
	}
	v.tellsAll()
	v.walks()
}

// TestAnErrorAtEachQuestion is told, with nothing; no further question is asked, and the buffer is as it was.
func TestAnErrorAtEachQuestion(t *testing.T) {
	l := []said{gone("b"), gone("c"), put("d", "said"), gone("e"), gone("f"), gone("h"), put("m", "said")}
	for _, say := range [][]said{nil, l, append(l[:2:2], gone("d"), gone("g"), gone("e"), gone("f"), gone("h"))} {
		for _, failure := range []api.Errno{api.ErrArg, api.ErrIO, api.ErrDark, api.ErrEnded, api.ErrPoolForm, api.ErrTreeForm, math.MaxUint16} {
			v := newView(t, groundOf("b", "c", "d", "e", "f", "g", "h"), say...)
			for _, from := range []string{"", "a", "b", "c", "d", "g", "h", "z"} {
				for _, in := range []bool{false, true} {
					v.failsFrom(failure, from, in)
				}
			}
			v.alike("", "a", "b", "c", "d", "e", "f", "g", "h", "m")
			v.ground.fails = nil
			v.tellsAll()
			v.walks()
		}
	}
}

// failsFrom lets each of the questions from a place fail in turn.
func (v view) failsFrom(failure api.Errno, from string, in bool) {
	v.Helper()
	for _, s := range sides() {
		want := s.questions(v.ground, v.plain.all(), from, in)
		for at := 1; at <= len(want); at++ {
			v.ground.asked, v.ground.fails = nil, map[int]api.Errno{at: failure}
			got, is, err := s.call(v.buffer, s.below(v.ground), []byte(from), in)
			if err != failure || is || len(got.Key) != 0 || len(got.Value) != 0 {
				v.Fatalf("%s: %s(%q, %v), failing at %d: %s, %v, %v", v, s.name, from, in, at, shownPair(got), is, err)
			}
			if !slices.Equal(v.ground.asked, want[:at]) {
				v.Fatalf("%s: %s(%q, %v), failing at %d, asked %v", v, s.name, from, in, at, v.ground.asked)
			}
		}
	}
}

// TestAnErrorThatComesOnce: asked again, the same call tells what is there.
func TestAnErrorThatComesOnce(t *testing.T) {
	v := newView(t, groundOf("a", "b", "c"), gone("a"), gone("b"))
	v.ground.fails = map[int]api.Errno{3: api.ErrIO}
	for turn, want := range []api.Errno{api.ErrIO, api.OK} {
		if _, is, err := buffer.Next(v.buffer, v.ground.next, nil, true); err != want || is != (want == api.OK) {
			t.Errorf("turn %d: %v, %v", turn, is, err)
		}
	}
}

// TestWhatIsNotBehindThePlace: a function that tells other keys than it may is believed just those that are behind the place it was asked of, and each call ends.
func TestWhatIsNotBehindThePlace(t *testing.T) {
	for _, say := range [][]said{nil, {gone("k")}, {gone("k"), put("z", "said"), put("a", "said")}, {gone("k"), gone("j"), gone("l")}, {put("k", "said")}} {
		for _, key := range []string{"", "j", "k", "l"} {
			for _, s := range sides() {
				for _, from := range []string{"", "j", "k", "l"} {
					for _, in := range []bool{false, true} {
						always(t, s, key, from, in, say)
					}
				}
			}
		}
	}
}

// always lets one key be told whatever is asked: what is seen is as of a ground that has just this one.
func always(t *testing.T, s side, key, from string, in bool, say []said) {
	t.Helper()
	w := newTwin(t, say...)
	asked := 0
	below := func([]byte, bool) (api.Pair, bool, api.Errno) {
		if asked++; asked > 10 {
			t.Fatalf("%s(%q, %v) behind %s asks on and on", s.name, from, in, w)
		}
		return api.Pair{Key: []byte(key), Value: []byte("below")}, true, api.OK
	}
	seen := newGround(map[string]string{key: "below"}).seen(w.plain.all())
	want, there := s.key(rising(seen), from, in)
	if got, is, err := s.call(w.buffer, below, []byte(from), in); !samePair(got, is, err, want, seen[want], there) {
		t.Errorf("%s(%q, %v) of %q behind %s: %s, %v, %v", s.name, from, in, key, w, shownPair(got), is, err)
	}
}

// TestNoFunctionAndNoBuffer: nothing lies below, nothing is said; no call panics.
func TestNoFunctionAndNoBuffer(t *testing.T) {
	w := newTwin(t, example()...)
	for at, want := range []said{put("a", "2"), put("b", "1")} {
		s := sides()[at]
		if got, is, err := s.call(w.buffer, nil, nil, true); !samePair(got, is, err, want.key, want.value, true) {
			t.Errorf("%s without a function: %s, %v, %v", s.name, shownPair(got), is, err)
		}
		if got, is, err := s.call(nil, nil, nil, true); !samePair(got, is, err, "", "", false) {
			t.Errorf("%s without all: %s, %v, %v", s.name, shownPair(got), is, err)
		}
		g := groundOf("k")
		if got, is, err := s.call(nil, s.below(g), nil, true); !samePair(got, is, err, "k", g.pairs["k"], true) || len(g.asked) != 1 {
			t.Errorf("%s without a buffer: %s, %v, %v", s.name, shownPair(got), is, err)
		}
	}
}

// TestABufferThatIsChangedWhileItAsks: the call ends, and tells a key that is there.
func TestABufferThatIsChangedWhileItAsks(t *testing.T) {
	for _, s := range sides() {
		w := newTwin(t, gone("a"), gone("b"), gone("c"))
		g := groundOf("a", "b", "c")
		tell := s.below(g)
		below := func(from []byte, in bool) (api.Pair, bool, api.Errno) {
			w.buffer.Back(0)
			return tell(from, in)
		}
		if got, is, err := s.call(w.buffer, below, nil, true); !is || len(got.Key) != 1 || err != api.OK {
			t.Errorf("%s: %s, %v, %v", s.name, shownPair(got), is, err)
		}
	}
}
