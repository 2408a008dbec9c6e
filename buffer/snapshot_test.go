package buffer_test

import (
	"fmt"
	"math/rand"
	"strings"
	"testing"

	"codicil/api"
	"codicil/buffer"
	"codicil/commit"
	"codicil/disk"
)

// walked is all that a way tells from its beginning on.
func walked(t *testing.T, way func(from []byte, in bool) (api.Pair, bool, api.Errno)) string {
	t.Helper()
	var out []string
	pair, is, err := way(nil, true)
	for ; is; pair, is, err = way(pair.Key, false) {
		out = append(out, shownPair(pair))
	}
	if err != api.OK {
		t.Fatal(err)
	}
	return strings.Join(out, ", ")
}

// TestOverASnapshot: what is seen through a buffer, both ways, is what the store has when the buffer's changes are applied to it.
func TestOverASnapshot(t *testing.T) {
	r := rand.New(rand.NewSource(16))
	d, err := disk.New(400)
	if err != api.OK {
		t.Fatal(err)
	}
	store, err := commit.Create(d)
	if err != api.OK {
		t.Fatal(err)
	}
	for turn := range 8 {
		w := newTwin(t)
		for range 150 {
			key := fmt.Sprintf("%03d", r.Intn(200))
			if r.Intn(3) == 0 {
				w.say(gone(key))
			} else {
				w.say(put(key, strings.Repeat("v", r.Intn(100))))
			}
		}
		w.back(100)
		snap := store.Snap()
		up := walked(t, func(from []byte, in bool) (api.Pair, bool, api.Errno) {
			return buffer.Next(w.buffer, snap.Next, from, in)
		})
		down := walked(t, func(from []byte, in bool) (api.Pair, bool, api.Errno) {
			return buffer.Prev(w.buffer, snap.Prev, from, in)
		})
		if err := store.Apply(w.buffer.Changes()); err != api.OK {
			t.Fatal(err)
		}
		snap.Drop()
		newest := store.Snap()
		if up != walked(t, newest.Next) || down != walked(t, newest.Prev) || up == "" {
			t.Errorf("turn %d: %s; %s", turn, up, down)
		}
		newest.Drop()
		if _, is, err := buffer.Next(w.buffer, newest.Next, nil, true); is || err != api.ErrEnded {
			t.Errorf("over a snapshot that was dropped: %v, %v", is, err)
		}
	}
}
