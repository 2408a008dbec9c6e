package buffer_test

import (
	"fmt"
	"math"
	"math/rand"
	"testing"

	"codicil/api"
)

// everything is a row that has all of it: new keys, the same ones again, puts of what is said already, deletes of what is not there.
func everything() []said {
	return []said{
		put("b", "1"), put("b", "1"), put("a", ""), gone("x"), gone("x"), put("b", "2"), gone("b"), put("b", "3"), put("", "e"),
		gone(""), put("x", "9"), put("c", "c"), gone("a"), gone("c"), put("", ""), put("a", "a"), put("b", "1"), gone("zz"),
	}
}

// TestMarkBehindEachCall: just Puts and Deletes count, whatever they say.
func TestMarkBehindEachCall(t *testing.T) {
	w := newTwin(t)
	for at, x := range everything() {
		w.say(x)
		if got := w.buffer.Mark(); got != at+1 {
			t.Fatalf("behind %s: %d", w, got)
		}
		w.buffer.Get([]byte(x.key))
		w.buffer.Changes()
		w.buffer.Len()
		w.buffer.Next(nil, true)
		w.buffer.Prev(nil, true)
		if got := w.buffer.Mark(); got != at+1 {
			t.Fatalf("behind questions and %s: %d", w, got)
		}
	}
}

// TestBackToEachMark, from each place of the row, and on from there.
func TestBackToEachMark(t *testing.T) {
	row := everything()
	for end := range len(row) + 1 {
		for mark := range end + 1 {
			w := newTwin(t, row[:end]...)
			w.back(mark)
			w.alike("", "a", "b", "c", "x", "zz")
			w.back(mark)
			w.alike("", "a", "b", "c", "x", "zz")
			w.say(gone("b"), put("new", "1"))
			w.alike("", "a", "b", "c", "x", "zz")
			w.back(mark)
			w.alike("", "a", "b", "c", "x", "zz", "new")
			w.say(row[mark:]...)
			w.alike("new")
			w.back(0)
			w.alike("", "a", "b", "c", "x", "zz", "new")
		}
	}
}

// TestBackStepByStep goes to each mark, from the last one to 0.
func TestBackStepByStep(t *testing.T) {
	for far := 1; far < 5; far++ {
		w := newTwin(t, everything()...)
		for mark := w.buffer.Mark(); mark >= 0; mark -= far {
			w.back(mark)
			w.alike("", "a", "b", "c", "x", "zz")
		}
	}
}

// TestBackToTheLastMark changes nothing, also of a buffer in which nothing is said.
func TestBackToTheLastMark(t *testing.T) {
	w := newTwin(t)
	w.back(0)
	w.alike("a")
	w.say(everything()...)
	w.back(w.buffer.Mark())
	w.alike("", "zz")
}

// TestAMarkThatIsReachedAgain: what was said behind it the first time is gone for good.
func TestAMarkThatIsReachedAgain(t *testing.T) {
	w := newTwin(t, put("a", "1"), put("b", "1"), put("b", "2"), gone("a"))
	mark := w.buffer.Mark()
	w.back(1)
	w.say(gone("b"), put("c", "3"), put("a", "4"))
	if w.buffer.Mark() != mark {
		t.Fatal(w.buffer.Mark())
	}
	w.alike("a", "b", "c")
	w.say(put("d", "5"), put("c", "6"), gone("b"))
	w.back(mark)
	w.alike("a", "b", "c", "d")
	if got, is := w.buffer.Get([]byte("b")); !same(got, is, gone("b"), true) {
		t.Errorf("%s, %v", shown(got), is)
	}
}

// TestWrongMarks are refused, and nothing has changed, neither what is said nor what can be gone back to.
func TestWrongMarks(t *testing.T) {
	for _, l := range [][]said{nil, {put("a", "1")}, {gone("")}, everything()} {
		w := newTwin(t, l...)
		for _, mark := range []int{-1, -2, -len(l), -len(l) - 1, -math.MaxInt32, math.MinInt32, math.MinInt, len(l) + 1, len(l) + 2, 2*len(l) + 1, math.MaxInt32, math.MaxUint32, math.MaxInt} {
			if mark == 0 {
				continue
			}
			if err := w.buffer.Back(mark); err != api.ErrArg {
				t.Errorf("behind %s: Back(%d): %v", w, mark, err)
			}
			w.alike("", "a", "b", "c")
		}
		for mark := len(l); mark >= 0; mark-- {
			w.back(mark)
			w.alike("", "a", "b", "c")
			if err := w.buffer.Back(mark + 1); err != api.ErrArg {
				t.Errorf("Back(%d) behind Back(%d): %v", mark+1, mark, err)
			}
			w.alike("", "a", "b", "c")
		}
	}
}

// TestTheSameKeyManyTimes: each one can be gone back to.
func TestTheSameKeyManyTimes(t *testing.T) {
	const many = 3000
	w := newTwin(t, put("j", "ahead"), put("l", "behind"))
	for i := range many {
		if i%5 == 4 {
			w.say(gone("k"))
		} else {
			w.say(put("k", fmt.Sprint(i)))
		}
	}
	w.alike("k")
	r := rand.New(rand.NewSource(1))
	for mark := 2 + many; mark > 2; mark -= 1 + r.Intn(9) {
		w.back(mark)
		if got, is := w.buffer.Get([]byte("k")); !same(got, is, w.plain.row[mark-1], true) || w.buffer.Len() != 3 {
			t.Fatalf("Back(%d): %s, %v", mark, shown(got), is)
		}
	}
	w.back(2)
	w.alike("k")
}
