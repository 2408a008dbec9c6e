package buffer_test

import (
	"fmt"
	"math/rand"
	"slices"
	"strings"
	"testing"

	"codicil/api"
	"codicil/buffer"
)

// example is what the chapter's examples say, one behind the other.
func example() []said { return []said{put("b", "1"), gone("c"), put("a", "2")} }

func TestFirstExample(t *testing.T) {
	b := newTwin(t, example()...).buffer
	l := b.Changes()
	if len(l) != 3 || !same(l[0], true, put("a", "2"), true) || !same(l[1], true, put("b", "1"), true) || !same(l[2], true, gone("c"), true) {
		t.Errorf("Changes: %s", shown(l...))
	}
	if b.Len() != 3 || b.Mark() != 3 {
		t.Errorf("Len %d, Mark %d", b.Len(), b.Mark())
	}
	if got, is := b.Next([]byte("a"), false); !same(got, is, put("b", "1"), true) {
		t.Errorf("Next(a, false): %s, %v", shown(got), is)
	}
	if got, is := b.Prev(nil, true); !same(got, is, gone("c"), true) {
		t.Errorf("Prev(empty, true): %s, %v", shown(got), is)
	}
	if err := b.Back(1); err != api.OK {
		t.Errorf("Back(1): %v", err)
	}
	if l := b.Changes(); len(l) != 1 || !same(l[0], true, put("b", "1"), true) {
		t.Errorf("Changes behind Back: %s", shown(l...))
	}
}

func TestErrorsNumber(t *testing.T) {
	if api.ErrArg != 1 {
		t.Error(api.ErrArg)
	}
}

func TestNewSaysNothing(t *testing.T) {
	newTwin(t).alike(oddKeys()...)
}

func TestBuffersKnowNothingOfOneAnother(t *testing.T) {
	one, two := newTwin(t), newTwin(t)
	one.say(example()...)
	two.alike("a", "b", "c")
	two.say(gone("a"), put("d", "4"))
	one.alike("d")
	one.back(0)
	two.alike("a", "b", "c")
	one.alike("a", "d")
}

// TestOfEachKeyTheLastOneCounts goes through all rows of four things that are said of one key, beside keys that stay.
func TestOfEachKeyTheLastOneCounts(t *testing.T) {
	of := func(key string) []said { return []said{put(key, ""), put(key, "1"), put(key, "22"), gone(key)} }
	for _, key := range []string{"", "a", "a\x00", "\xff"} {
		l := of(key)
		for row := range 4 * 4 * 4 * 4 {
			w := newTwin(t, put("a ", "ahead"), gone("a\x00\x00"))
			for ; row > 0; row /= 4 {
				w.say(l[row%4])
				w.alike(key)
			}
		}
	}
}

func TestADeleteOfAKeyOfWhichNothingIsSaid(t *testing.T) {
	w := newTwin(t, gone("x"))
	w.alike("", "w", "x", "y")
	if got, is := w.buffer.Get([]byte("x")); !is || !got.Delete || len(got.Value) != 0 {
		t.Errorf("%s, %v", shown(got), is)
	}
	w.say(gone("x"), gone(""), gone("x\x00"))
	w.alike("w", "x\x00\x00")
}

// TestOddKeys are taken in, rising, falling and in drawn orders.
func TestOddKeys(t *testing.T) {
	keys := oddKeys()
	for seed := range int64(12) {
		l := slices.Clone(keys)
		switch r := rand.New(rand.NewSource(seed)); seed {
		case 0:
			slices.Sort(l)
		case 1:
			slices.SortFunc(l, func(a, b string) int { return strings.Compare(b, a) })
		default:
			r.Shuffle(len(l), func(i, j int) { l[i], l[j] = l[j], l[i] })
		}
		w := newTwin(t)
		for at, key := range l {
			if at%3 == 2 {
				w.say(gone(key))
			} else {
				w.say(put(key, fmt.Sprint("of ", at)))
			}
			w.alike(keys...)
		}
		for mark := len(l); mark >= 0; mark-- {
			w.back(mark)
			w.alike(keys...)
		}
	}
}

// TestEmptyKeyAndWays: what the empty key does to Next and Prev, said and not.
func TestEmptyKeyAndWays(t *testing.T) {
	for _, x := range []struct {
		say        []said
		next, prev string // with and without in, of the empty key
	}{
		{nil, "none none", "none none"},
		{[]said{put("", "e")}, " none", " none"},
		{[]said{gone("")}, " none", " none"},
		{[]said{put("b", "1")}, "b b", "b none"},
		{[]said{put("b", "1"), gone("d")}, "b b", "d none"},
		{[]said{put("b", "1"), gone("")}, " b", "b none"},
	} {
		w := newTwin(t, x.say...)
		tells := func(call func([]byte, bool) (api.Change, bool)) string {
			var out []string
			for _, in := range []bool{true, false} {
				got, is := call(nil, in)
				if !is {
					got.Key = []byte("none")
				}
				out = append(out, string(got.Key))
			}
			return strings.Join(out, " ")
		}
		if next, prev := tells(w.buffer.Next), tells(w.buffer.Prev); next != x.next || prev != x.prev {
			t.Errorf("%s: Next %q, Prev %q", w, next, prev)
		}
	}
}

// TestListsAndEmptyOnes: no list, and one without bytes, are the same.
func TestListsAndEmptyOnes(t *testing.T) {
	for _, empty := range [][]byte{nil, {}, withRoom("", 9, 'k')} {
		for _, other := range [][]byte{nil, {}, withRoom("", 9, 'v')} {
			b := buffer.New()
			b.Put(empty, other)
			if got, is := b.Get(other); !same(got, is, put("", ""), true) || b.Len() != 1 {
				t.Errorf("Get: %s, %v", shown(got), is)
			}
			b.Delete(other)
			if got, is := b.Next(empty, true); !same(got, is, gone(""), true) || b.Len() != 1 {
				t.Errorf("Next: %s, %v", shown(got), is)
			}
			b.Put([]byte("k"), other)
			if got, is := b.Prev(empty, true); !same(got, is, put("k", ""), true) {
				t.Errorf("Prev: %s, %v", shown(got), is)
			}
			if got, is := b.Prev(empty, false); !same(got, is, said{}, false) {
				t.Errorf("Prev without in: %s, %v", shown(got), is)
			}
			if got, is := b.Next(empty, false); !same(got, is, put("k", ""), true) {
				t.Errorf("Next without in: %s, %v", shown(got), is)
			}
		}
	}
}

func TestValuesOfAllSizes(t *testing.T) {
	w := newTwin(t)
	for _, size := range []int{0, 1, 64, 65, 8191, 8192, 8193, 100000} {
		w.say(put(fmt.Sprint("of ", size), strings.Repeat("v", size)))
	}
	w.alike()
	w.say(put("of 8193", ""), put("of 0", strings.Repeat("w", 8193)))
	w.alike()
	w.back(8)
	w.alike()
}

// TestAskingSaysNothing: no answer changes what is told next.
func TestAskingSaysNothing(t *testing.T) {
	w := newTwin(t, example()...)
	for range 3 {
		w.alike(oddKeys()...)
	}
	w.back(2)
	for range 3 {
		w.alike(oddKeys()...)
	}
}

// TestThroughAllThatIsSaid goes from end to end, both ways.
func TestThroughAllThatIsSaid(t *testing.T) {
	r := rand.New(rand.NewSource(4))
	w := newTwin(t)
	for range 3000 {
		if key := fmt.Sprint(r.Intn(2000)); r.Intn(3) == 0 {
			w.say(gone(key))
		} else {
			w.say(put(key, fmt.Sprint("v", r.Intn(50))))
		}
	}
	all := w.plain.all()
	keys := rising(all)
	at := 0
	for c, is := w.buffer.Next(nil, true); is; c, is = w.buffer.Next(c.Key, false) {
		if at >= len(keys) || !same(c, is, all[keys[at]], true) {
			t.Fatalf("Next, the %d-th: %s", at, shown(c))
		}
		at++
	}
	if at != len(keys) || w.buffer.Len() != len(keys) {
		t.Errorf("%d of %d keys", at, len(keys))
	}
	for c, is := w.buffer.Prev(nil, true); is; c, is = w.buffer.Prev(c.Key, false) {
		at--
		if at < 0 || !same(c, is, all[keys[at]], true) {
			t.Fatalf("Prev, the %d-th: %s", at, shown(c))
		}
	}
	if at != 0 {
		t.Errorf("%d keys are left", at)
	}
}
