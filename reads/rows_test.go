package reads_test

import (
	"fmt"
	"math/rand"
	"runtime"
	"slices"
	"strings"
	"testing"

	"codicil/api"
)

// shortSteps are all Keys of some keys, all Spans between two of them, and all without end, with a To that is empty, below and above.
func shortSteps(keys ...string) []step {
	var out []step
	for _, from := range keys {
		out = append(out, key(from), open(from, ""))
		for _, to := range keys {
			out = append(out, span(from, to))
		}
	}
	return append(out, open("a", "\x00"), open("a", "b"))
}

// TestAllShortRows goes through all rows of at most three steps of four keys, and of at most four of three keys.
func TestAllShortRows(t *testing.T) {
	for _, x := range []struct {
		steps []step
		most  int
	}{{shortSteps("", "a", "a\x00", "b"), 3}, {shortSteps("a", "a\x00", "b"), 4}} {
		rows := 1
		for length := range x.most + 1 {
			for row := range rows {
				w := newTwin(t)
				for range length {
					w.add(x.steps[row%len(x.steps)])
					row /= len(x.steps)
				}
				w.alike("a\x01")
			}
			rows *= len(x.steps)
		}
	}
}

// drawn is a row of steps between some keys; few are without end, as nothing is left to be added behind them.
func drawn(r *rand.Rand, keys []string, length int) []step {
	var out []step
	for range length {
		from, to := r.Intn(len(keys)), r.Intn(len(keys))
		switch r.Intn(12) {
		case 0, 1, 2, 3, 4:
			out = append(out, key(keys[from]))
		case 5:
			out = append(out, span(keys[from], keys[to]))
		case 6:
			if r.Intn(20) == 0 {
				out = append(out, open(keys[from], keys[to]))
			}
		case 7:
			out = append(out, span(keys[from], keys[from]+"\x00"))
		default:
			out = append(out, span(keys[from], keys[min(from+1+r.Intn(3), len(keys)-1)]))
		}
	}
	return out
}

// drawnKeys are rising keys of up to four bytes, of which few are of other kinds than 00, ff and a: so that many lie right beside one another.
func drawnKeys(r *rand.Rand, many int) []string {
	var out []string
	for range many {
		k := make([]byte, r.Intn(5))
		for at := range k {
			k[at] = []byte{0, 0, 0xff, 'a', byte(r.Intn(256))}[r.Intn(5)]
		}
		out = append(out, string(k))
	}
	slices.Sort(out)
	return slices.Compact(out)
}

// TestLongDrawnRows: of few keys and of many, looked at now and then, or at the end alone; asked by rows of keys as well.
func TestLongDrawnRows(t *testing.T) {
	for seed := range int64(80) {
		r := rand.New(rand.NewSource(seed))
		keys := drawnKeys(r, []int{3, 12, 60, 400}[seed%4])
		row := drawn(r, keys, 100+r.Intn(600))
		w := newTwin(t)
		for len(row) > 0 {
			some := min(len(row), 1+r.Intn([]int{1, 20, 300}[seed%3]))
			w.add(row[:some]...)
			row = row[some:]
			w.tellsHas(keys[r.Intn(len(keys))], keys[r.Intn(len(keys))])
			w.tellsAll()
			for range 3 {
				var asked []string
				for range r.Intn(6) {
					asked = append(asked, keys[r.Intn(len(keys))]+strings.Repeat("\x00", r.Intn(3)))
				}
				w.tellsMeets(asked...)
			}
		}
		w.alike(keys...)
	}
}

// TestFarApartKeys: as many spans as there are keys, also of those that are not put together for long; rising, falling and mixed.
func TestFarApartKeys(t *testing.T) {
	const many = 20000
	name := func(i int) string { return fmt.Sprintf("%06d", i) }
	for order, at := range map[string]func(i int) int{
		"rising":  func(i int) int { return i },
		"falling": func(i int) int { return many - 1 - i },
		"mixed":   func(i int) int { return i * 7919 % many },
	} {
		s := newTwin(t).set
		for i := range many {
			s.Key([]byte(name(2 * at(i))))
		}
		l := s.All()
		if len(l) != many {
			t.Fatalf("%s: %d spans", order, len(l))
		}
		for i := range many {
			if k := name(2 * i); asStep(l[i]) != key(k).whole() || !s.Has([]byte(k)) || s.Has([]byte(k+"\x00")) || s.Has([]byte(name(2*i+1))) {
				t.Fatalf("%s: the %d-th span is %s", order, i, shown(l[i:i+1]))
			}
		}
		for i := range many {
			s.Span(api.Span{From: []byte(name(2*at(i)) + "\x00"), To: []byte(name(2*at(i) + 2))})
		}
		if l := s.All(); !isAll(l, []step{span(name(0), name(2*many))}) {
			t.Fatalf("%s: with what lies between: %s", order, shown(l[:min(3, len(l))]))
		}
	}
}

// TestGoneThroughKeyByKey: as one goes through keys, each span from behind the last one up to the next, with it.
func TestGoneThroughKeyByKey(t *testing.T) {
	s := newTwin(t).set
	from := "k"
	for i := range 30000 {
		at := fmt.Sprintf("k%05d", i)
		s.Span(api.Span{From: []byte(from), To: []byte(at + "\x00")})
		from = at + "\x00"
		if i%1000 == 0 || i < 200 {
			if l := s.All(); !isAll(l, []step{span("k", from)}) {
				t.Fatalf("behind %d keys: %s", i+1, shown(l))
			}
		}
	}
	if !s.Has([]byte("k29999")) || s.Has([]byte(from)) || s.Has([]byte("j")) {
		t.Error("what was read")
	}
}

// TestNoMoreIsKeptThanWasRead: the same keys and spans, over and over, take no more room than once.
func TestNoMoreIsKeptThanWasRead(t *testing.T) {
	s := newTwin(t).set
	long := []byte(strings.Repeat("k", 20000))
	inUse := func() uint64 {
		var m runtime.MemStats
		runtime.GC()
		runtime.ReadMemStats(&m)
		return m.HeapAlloc
	}
	ahead := inUse()
	for range 20000 {
		s.Key(long)
		s.Span(api.Span{From: long[:19000], To: long})
	}
	if now := inUse(); now > ahead+50<<20 {
		t.Errorf("%d bytes more are in use", now-ahead)
	}
	if l := s.All(); !isAll(l, []step{span(string(long[:19000]), string(long)+"\x00")}) {
		t.Errorf("All: %s", shown(l))
	}
}
