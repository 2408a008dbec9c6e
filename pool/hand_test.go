package pool

import (
	"math/rand"
	"testing"
)

// hangs looks whether just the sheets that are found hang in the ring, both ways round: what has gone is kept nowhere.
func hangs(t *testing.T, h *hand) {
	t.Helper()
	count := 0
	for s := h.end.younger; s != h.end; s = s.younger {
		if h.found[s.number] != s || s.elder.younger != s || s.younger.elder != s {
			t.Fatalf("sheet %d hangs wrongly", s.number)
		}
		if count++; count > len(h.found) {
			t.Fatalf("in the ring hangs more than the %d that are found", len(h.found))
		}
	}
	if count != len(h.found) || count > h.most || h.end.younger.elder != h.end || h.end.elder.younger != h.end {
		t.Fatalf("in the ring hang %d, found are %d", count, len(h.found))
	}
}

func TestRingAndMapAgree(t *testing.T) {
	for most := 1; most <= 5; most++ {
		r := rand.New(rand.NewSource(int64(most)))
		h := newHand(most)
		hangs(t, &h)
		for range 2000 {
			number := uint32(r.Intn(7))
			s, ok := h.found[number]
			switch {
			case r.Intn(4) == 0:
				h.drop(number)
			case ok:
				h.use(s)
			default:
				h.take(number, 1, []byte("x"))
			}
			hangs(t, &h)
		}
	}
}
