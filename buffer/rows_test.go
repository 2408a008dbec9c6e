package buffer_test

import (
	"fmt"
	"math/rand"
	"testing"
)

// TestAllShortRows goes through all rows of at most five steps: Puts and Deletes of three keys, and Backs to marks near and far, also to wrong ones.
func TestAllShortRows(t *testing.T) {
	var steps []func(w *twin)
	for _, key := range []string{"", "a", "a\x00"} {
		for _, x := range []said{put(key, "1"), put(key, "2"), gone(key)} {
			steps = append(steps, func(w *twin) { w.say(x) })
		}
	}
	for _, far := range []int{-1, 0, 1, 2} {
		steps = append(steps, func(w *twin) { w.back(len(w.plain.row) - far) })
	}
	rows := 1
	for length := range 6 {
		for row := range rows {
			w := newTwin(t)
			for range length {
				steps[row%len(steps)](w)
				row /= len(steps)
			}
			w.alike("\x00", "b")
		}
		rows *= len(steps)
	}
}

// TestLongDrawnRows: of few keys and of many, with Backs near and far, and marks that are none.
func TestLongDrawnRows(t *testing.T) {
	odd := oddKeys()[:23]
	for seed := range int64(60) {
		r := rand.New(rand.NewSource(seed))
		var keys []string
		for _, at := range r.Perm(len(odd))[:1+r.Intn(len(odd))] {
			keys = append(keys, odd[at])
		}
		w := newTwin(t)
		for range 300 {
			key := keys[r.Intn(len(keys))]
			switch r.Intn(12) {
			case 0, 1, 2:
				w.say(gone(key))
			case 3:
				w.back(r.Intn(len(w.plain.row) + 1))
			case 4:
				w.back(max(0, len(w.plain.row)-r.Intn(4)))
			case 5:
				w.back([]int{-1, -r.Intn(1000) - 1, len(w.plain.row) + 1, len(w.plain.row) + 1 + r.Intn(1000)}[r.Intn(4)])
			case 6:
				w.say(put(key, ""))
			default:
				w.say(put(key, fmt.Sprint(r.Intn(20))))
			}
			w.alike(odd...)
		}
	}
}

// TestManyKeys are taken in, looked at, and let go again.
func TestManyKeys(t *testing.T) {
	const many = 20000
	for name, key := range map[string]func(i int) string{
		"rising":  func(i int) string { return fmt.Sprintf("%06d", i) },
		"falling": func(i int) string { return fmt.Sprintf("%06d", many-i) },
		"mixed":   func(i int) string { return fmt.Sprintf("%06d", i*7919%many) },
	} {
		w := newTwin(t)
		for i := range many {
			w.say(put(key(i), fmt.Sprint(i)))
		}
		l := w.buffer.Changes()
		if len(l) != many || w.buffer.Len() != many || w.buffer.Mark() != many {
			t.Fatalf("%s: %d changes, Len %d, Mark %d", name, len(l), w.buffer.Len(), w.buffer.Mark())
		}
		for at := range l[1:] {
			if string(l[at].Key) >= string(l[at+1].Key) {
				t.Fatalf("%s: %q ahead of %q", name, l[at].Key, l[at+1].Key)
			}
		}
		for i := range many {
			if got, is := w.buffer.Get([]byte(key(i))); !same(got, is, put(key(i), fmt.Sprint(i)), true) {
				t.Fatalf("%s: Get: %s, %v", name, shown(got), is)
			}
		}
		w.back(40)
		w.alike(key(41), key(many-1))
	}
}
