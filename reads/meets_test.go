package reads_test

import (
	"slices"
	"strings"
	"testing"
)

// TestMeets tells, written out, what rows of keys meet.
func TestMeets(t *testing.T) {
	set := []step{key("b"), span("d", "f"), open("x", "a")}
	for _, x := range []struct {
		keys string // parted by blanks; - is the empty key
		want bool
	}{
		{"", false},
		{"b", true},
		{"a", false},
		{"-", false},
		{"a c f w", false},
		{"a a a", false},
		{"b b b", true},
		{"b a c", true},
		{"a b c", true},
		{"c a b", true},
		{"d", true},
		{"e", true},
		{"f", false},
		{"f x", true},
		{"ff eee w", true},
		{"zzz a", true},
		{"w wz ca", false},
		{"- -", false},
		{"- x -", true},
	} {
		keys := strings.Fields(x.keys)
		for at := range keys {
			keys[at] = strings.TrimPrefix(keys[at], "-")
		}
		for _, asked := range [][]string{keys, slices.Concat(keys, keys), reversed(keys)} {
			w := newTwin(t, set...)
			if got := w.set.Meets(bytesOf(asked...)); got != x.want {
				t.Errorf("Meets(%q): %v", asked, got)
			}
			w.tellsMeets(asked...)
			w.alike()
		}
	}
}

func reversed(l []string) []string {
	l = slices.Clone(l)
	slices.Reverse(l)
	return l
}

// TestMeetsIsTheLastOneAlone: of long rows of keys that were not read, with one that was, at each place.
func TestMeetsIsTheLastOneAlone(t *testing.T) {
	w := newTwin(t, key("m"), span("n", "o"), span("q", "p"))
	var keys []string
	for _, k := range oddKeys() {
		if !w.plain.has(k) {
			keys = append(keys, k)
		}
	}
	w.tellsMeets(keys...)
	for at := range len(keys) + 1 {
		w.tellsMeets(slices.Insert(slices.Clone(keys), at, "n\xff")...)
		w.tellsMeets(slices.Insert(slices.Clone(keys), at, "m")...)
		w.tellsMeets(slices.Insert(slices.Clone(keys), at, "m\x00")...)
		w.tellsMeets(slices.Insert(slices.Clone(keys), at, "o", "pp")...)
	}
}

// TestMeetsWithNothingRead: also behind spans without keys.
func TestMeetsWithNothingRead(t *testing.T) {
	w := newTwin(t, span("b", "a"), span("", ""), span("c", ""))
	w.tellsMeets()
	w.tellsMeets("", "a", "b", "c")
	w.tellsMeets(oddKeys()...)
	w.alike()
}
