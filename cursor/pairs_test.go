package cursor

import (
	"slices"
	"strconv"
	"testing"

	"codicil/api"
	"codicil/disk"
	"codicil/pool"
	"codicil/tree"
)

// hundreds is a tree of the keys 1000 to 1999, on the pages from 2 on.
func hundreds(t *testing.T) (*disk.Disk, uint32, []string) {
	t.Helper()
	d, _ := disk.New(300)
	p, _ := pool.New(d, 300)
	var l []api.Change
	var keys []string
	for i := range 1000 {
		key := strconv.Itoa(1000 + i)
		keys = append(keys, key)
		l = append(l, api.Change{Key: []byte(key), Value: []byte(key)})
	}
	draft, err := tree.Edit(p, 0, l)
	if err != api.OK {
		t.Fatal(err)
	}
	var at []uint32
	for number := range uint32(draft.Need()) {
		at = append(at, 2+number)
	}
	root, err := draft.Write(p, at)
	if err != api.OK {
		t.Fatal(err)
	}
	return d, root, keys
}

// gone is what is told when all pairs of a way are gone through.
func gone(p *pool.Pool, root uint32, w way) ([]string, api.Errno) {
	var out []string
	for pair, err := range pairs(p, root, w) {
		if err != api.OK {
			return out, err
		}
		out = append(out, string(pair.Key))
	}
	return out, api.OK
}

// TestAllPairs: both ways, from each key on, in one range.
func TestAllPairs(t *testing.T) {
	d, root, keys := hundreds(t)
	p, _ := pool.New(d, 300)
	fallen := slices.Clone(keys)
	slices.Reverse(fallen)
	for name, x := range map[string]struct {
		way  way
		want []string
	}{
		"up":              {upFrom(nil, false), keys},
		"up with":         {upFrom(nil, true), keys},
		"up from 1500":    {upFrom([]byte("1500"), true), keys[500:]},
		"up behind 1500":  {upFrom([]byte("1500"), false), keys[501:]},
		"up behind all":   {upFrom([]byte("2"), true), nil},
		"down":            {downFromEnd(), fallen},
		"down from 1500":  {downFrom([]byte("1500"), true), fallen[499:]},
		"down below 1500": {downFrom([]byte("1500"), false), fallen[500:]},
		"down from 2":     {downFrom([]byte("2"), false), fallen},
		"down below all":  {downFrom([]byte("1"), true), nil},
		"down from none":  {downFrom(nil, false), nil},
	} {
		if got, err := gone(p, root, x.way); err != api.OK || !slices.Equal(got, x.want) {
			t.Errorf("%s: %d keys, %v; not %d", name, len(got), err, len(x.want))
		}
		if got, err := gone(p, 0, x.way); err != api.OK || len(got) > 0 {
			t.Errorf("%s of the root 0: %q, %v", name, got, err)
		}
	}
}

// TestPairsThatAreLeft: one may leave behind any of them, and what is behind that is not read.
func TestPairsThatAreLeft(t *testing.T) {
	d, root, keys := hundreds(t)
	for _, count := range []int{1, 2, 100, 999, 1000} {
		p, _ := pool.New(d, 300)
		left := count
		for pair, err := range pairs(p, root, upFrom(nil, false)) {
			if err != api.OK || string(pair.Key) != keys[count-left] {
				t.Fatalf("%q, %v; not %q", pair.Key, err, keys[count-left])
			}
			if left--; left == 0 {
				break
			}
		}
		if left != 0 {
			t.Errorf("%d are missing", left)
		}
	}
	p, _ := pool.New(d, 300)
	for range pairs(p, root, upFrom(nil, false)) {
		break
	}
	if p.Len() > 3 {
		t.Errorf("%d pages were read for one key", p.Len())
	}
}

// TestAnErrorIsTheLast: also for one who does not leave.
func TestAnErrorIsTheLast(t *testing.T) {
	d, root, _ := hundreds(t)
	p, _ := pool.New(d, 300)
	pages, _, _ := tree.Walk(p, root)
	for failing := range pages {
		p, _ := pool.New(d, 300)
		d.Fail(1, failing)
		errors, last := 0, api.OK
		for _, err := range pairs(p, root, downFromEnd()) {
			if last = err; err != api.OK {
				errors++
			}
		}
		if errors != 1 || last != api.ErrIO {
			t.Errorf("behind %d reads: %d errors, the last told is %v", failing, errors, last)
		}
	}
}
