package tree_test

import (
	"math/rand"
	"slices"
	"testing"

	"codicil/api"
	"codicil/node"
	"codicil/page"
	"codicil/pool"
	"codicil/tree"
)

// spoilt is a page of a tree with something else in it: mostly it can still be read, but leads elsewhere, or has other keys.
func spoilt(r *rand.Rand, s sheet, all []sheet) sheet {
	other := all[r.Intn(len(all))]
	n, err := node.Decode(s.kind, s.payload)
	if err != api.OK {
		return sheet{s.number, []uint8{page.Over, other.kind}[r.Intn(2)], [][]byte{other.payload, s.payload[:len(s.payload)-1]}[r.Intn(2)]}
	}
	at := r.Intn(len(n.Entries))
	switch r.Intn(7) {
	case 0:
		n.Entries[at].Key = []byte(mixed(1+r.Intn(3), r.Uint32()))
	case 1:
		n.Entries[at].Page = other.number
	case 2:
		n.Entries[at].Page, n.Entries[at].Size, n.Entries[at].Value = other.number, uint32(65+r.Intn(3000)), nil
	case 3:
		n.Entries = slices.Delete(n.Entries, at, at+1)
	case 4:
		return sheet{s.number, other.kind, other.payload}
	case 5:
		n.Entries[0].Page = s.number
	case 6:
		return sheet{s.number, uint8(1 + r.Intn(4)), s.payload}
	}
	b, err := node.Encode(n)
	if err != api.OK {
		return s
	}
	return sheet{s.number, s.kind, b}
}

// TestWalkOfAnyPages holds Walk of trees with a few other pages in them against the plain one; what Get and Edit answer of them is one of what they may.
func TestWalkOfAnyPages(t *testing.T) {
	counts := map[bool]int{}
	for seed := range int64(600) {
		r := rand.New(rand.NewSource(seed + 1000))
		made := grow(r, 300)
		sheets := slices.Clone(made.sheets)
		for range r.Intn(3) {
			at := r.Intn(len(sheets))
			sheets[at] = spoilt(r, sheets[at], sheets)
		}
		p := newPool(t, loaded(t, 600, sheets...), 1+r.Intn(40))
		want, right := plainWalk(p, made.root)
		counts[right]++
		pages, keys, err := tree.Walk(p, made.root)
		if right && (err != api.OK || keys != len(want.pairs) || !slices.Equal(pages, want.pages)) {
			t.Fatalf("seed %d: a right tree: %d pages, %d keys, %v", seed, len(pages), keys, err)
		}
		if !right && (err != api.ErrTreeForm || keys != 0 || len(pages) != 0) {
			t.Fatalf("seed %d: no right tree: %d pages, %d keys, %v", seed, len(pages), keys, err)
		}
		for range 4 {
			editsAny(t, p, made, r)
		}
	}
	if counts[true] < 100 || counts[false] < 100 {
		t.Errorf("%d right trees and %d others are too few", counts[true], counts[false])
	}
}

// editsAny lets Get, Edit and Write meet a tree that may be wrong.
func editsAny(t *testing.T, p *pool.Pool, made grown, r *rand.Rand) {
	t.Helper()
	var l []api.Change
	for range 1 + r.Intn(20) {
		key := made.keys[r.Intn(len(made.keys))]
		if _, is, err := tree.Get(p, made.root, []byte(key)); err != api.OK && (err != api.ErrTreeForm || is) {
			t.Fatalf("Get: %v, %v", is, err)
		}
		if r.Intn(4) == 0 {
			key = mixed(1+r.Intn(160), r.Uint32())
		}
		l = append(l, anyChange(r, key))
	}
	d, err := tree.Edit(p, made.root, l)
	if err == api.ErrTreeForm && d == nil {
		return
	}
	if err != api.OK {
		t.Fatalf("Edit: %v", err)
	}
	var at []uint32
	for i := range uint32(d.Need()) {
		at = append(at, 300+i)
	}
	if root, err := d.Write(p, at); err != api.OK && (err != api.ErrTreeForm || root != 0) {
		t.Fatalf("Write: %d, %v", root, err)
	}
}

// TestPagesThatLeadRound: pages that lead to one another ever again end all the same.
func TestPagesThatLeadRound(t *testing.T) {
	for _, ring := range []uint32{1, 2, 7, 16, 17, 18, 40} {
		var sheets []sheet
		for i := range ring {
			next := 10 + (i+1)%ring
			sheets = append(sheets, branch(10+i, kid("", next)))
		}
		p := newPool(t, loaded(t, 60, sheets...), 9)
		refusesWalk(t, p, 10, api.ErrTreeForm)
		refusesGet(t, p, 10, "a", api.ErrTreeForm)
		refusesEdit(t, p, 10, api.ErrTreeForm, put("a", "1"))
		refusesEdit(t, p, 10, api.ErrTreeForm, del("a"))
	}
}
