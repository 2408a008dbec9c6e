package reads_test

import (
	"math/rand"
	"slices"
	"strings"
	"testing"

	"codicil/api"
	"codicil/reads"
)

// TestExample goes through the chapter's, step by step.
func TestExample(t *testing.T) {
	s := reads.New()
	s.Key([]byte("a"))
	s.Key([]byte("c"))
	s.Span(api.Span{From: []byte("b"), To: []byte("d")})
	if got := s.All(); !isAll(got, []step{span("a", "a\x00"), span("b", "d")}) {
		t.Errorf("All: %s", shown(got))
	}
	if !s.Has([]byte("c")) || s.Has([]byte("d")) || s.Has([]byte("a\x00")) {
		t.Errorf("Has: %v, %v, %v", s.Has([]byte("c")), s.Has([]byte("d")), s.Has([]byte("a\x00")))
	}
	s.Span(api.Span{From: []byte("a\x00"), To: []byte("b")})
	if got := s.All(); !isAll(got, []step{span("a", "d")}) {
		t.Errorf("All behind a 00 to b: %s", shown(got))
	}
	s.Span(api.Span{From: []byte("z"), Open: true})
	if got := s.All(); !isAll(got, []step{span("a", "d"), open("z", "")}) {
		t.Errorf("All behind z: %s", shown(got))
	}
	if !s.Meets(bytesOf("x", "zz")) {
		t.Error("Meets: false")
	}
}

func TestOfANewSetNothingWasRead(t *testing.T) {
	w := newTwin(t)
	w.alike(oddKeys()...)
	if got := w.set.All(); len(got) != 0 {
		t.Errorf("All: %s", shown(got))
	}
	w.tellsMeets()
	w.tellsMeets(oddKeys()...)
	if w.set.Has(nil) || w.set.Meets(nil) || w.set.Meets([][]byte{}) || w.set.Meets([][]byte{nil}) {
		t.Error("something was read")
	}
}

func TestSetsKnowNothingOfOneAnother(t *testing.T) {
	one, two := newTwin(t), newTwin(t)
	one.add(key("a"), open("x", ""))
	two.alike("a", "x")
	two.add(span("", "b"))
	one.alike("", "aa")
	two.alike("x")
}

// TestAKeyIsThatOneAlone: not one that begins with it, nor one that it begins with.
func TestAKeyIsThatOneAlone(t *testing.T) {
	for _, k := range oddKeys() {
		w := newTwin(t, key(k))
		if got := w.set.All(); !isAll(got, []step{span(k, k+"\x00")}) {
			t.Errorf("Key(%s): All %s", short(k), shown(got))
		}
		w.alike(oddKeys()...)
		w.add(key(k), key(k))
		w.alike(oddKeys()...)
	}
}

// TestEachSpan goes from each key to each one: also to itself, to one below, and without end.
func TestEachSpan(t *testing.T) {
	short := oddKeys()[:15]
	for _, from := range append(short, "\xff", "\xff\xff") {
		for _, to := range append(short, "\xff", "\xff\xff") {
			for _, x := range []step{span(from, to), open(from, to)} {
				w := newTwin(t, x)
				w.alike(short...)
				w.add(x)
				w.alike(short...)
			}
		}
	}
}

// TestSpansOfOtherKinds tells what the chapter's words make of one span, written out.
func TestSpansOfOtherKinds(t *testing.T) {
	long := strings.Repeat("k", 5000)
	for _, x := range []struct {
		add  step
		want []step
	}{
		{span("", ""), nil},
		{span("a", "a"), nil},
		{span("b", "a"), nil},
		{span("a\x00", "a"), nil},
		{span("a", ""), nil},
		{span("\xff", ""), nil},
		{span("", "\x00"), []step{span("", "\x00")}},
		{span("", "a"), []step{span("", "a")}},
		{span("a", "a\x00"), []step{span("a", "a\x00")}},
		{span(long, long+"\x00"), []step{span(long, long+"\x00")}},
		{open("", ""), []step{open("", "")}},
		{open("a", ""), []step{open("a", "")}},
		{open("a", "b"), []step{open("a", "")}},
		{open("b", "a"), []step{open("b", "")}},
		{open("b", "b"), []step{open("b", "")}},
		{open("\xff\xff", "\xff"), []step{open("\xff\xff", "")}},
	} {
		s := newTwin(t, x.add).set
		if got := s.All(); !isAll(got, x.want) {
			t.Errorf("%s: All %s", x.add, shown(got))
		}
		if got := s.Has([]byte(x.add.from)); got != (x.want != nil) {
			t.Errorf("%s: Has its beginning: %v", x.add, got)
		}
	}
}

// TestSpansBesideSpans: how two, and more, are put together, written out; in all orders, each one also twice.
func TestSpansBesideSpans(t *testing.T) {
	for name, x := range map[string]struct{ add, want []step }{
		"far apart":                   {[]step{span("a", "b"), span("c", "d")}, []step{span("a", "b"), span("c", "d")}},
		"one key apart":               {[]step{span("a", "b"), span("b\x00", "d")}, []step{span("a", "b"), span("b\x00", "d")}},
		"at an end":                   {[]step{span("a", "b"), span("b", "d")}, []step{span("a", "d")}},
		"over an end":                 {[]step{span("a", "c"), span("b", "d")}, []step{span("a", "d")}},
		"within":                      {[]step{span("a", "d"), span("b", "c")}, []step{span("a", "d")}},
		"within, from the beginning":  {[]step{span("a", "d"), span("a", "c")}, []step{span("a", "d")}},
		"within, up to the end":       {[]step{span("a", "d"), span("b", "d")}, []step{span("a", "d")}},
		"within, and one behind":      {[]step{span("a", "d"), span("b", "c"), span("cc", "e")}, []step{span("a", "e")}},
		"closes a gap":                {[]step{span("a", "b"), span("c", "d"), span("b", "c")}, []step{span("a", "d")}},
		"over both":                   {[]step{span("b", "c"), span("d", "e"), span("bb", "dd")}, []step{span("b", "e")}},
		"over all":                    {[]step{span("b", "c"), span("d", "e"), key("f"), span("a", "z")}, []step{span("a", "z")}},
		"over two of three":           {[]step{key("b"), key("d"), key("f"), span("a", "e")}, []step{span("a", "e"), key("f").whole()}},
		"a gap of one key":            {[]step{span("a", "b"), key("b"), span("b\x00", "c")}, []step{span("a", "c")}},
		"a key and the one behind":    {[]step{key("a"), key("a\x00"), key("a\x00\x00")}, []step{span("a", "a\x00\x00\x00")}},
		"a key ahead of a span":       {[]step{key("a"), span("a\x00", "b")}, []step{span("a", "b")}},
		"a key at a span's beginning": {[]step{key("a"), span("a", "b")}, []step{span("a", "b")}},
		"a key at a span's end":       {[]step{key("b"), span("a", "b")}, []step{span("a", "b\x00")}},
		"a key behind a span's end":   {[]step{key("b\x00"), span("a", "b")}, []step{span("a", "b"), key("b\x00").whole()}},
		"open ahead":                  {[]step{open("a", ""), key("b"), span("c", "d"), open("e", "")}, []step{open("a", "")}},
		"open behind":                 {[]step{open("e", ""), key("b"), span("c", "d")}, []step{key("b").whole(), span("c", "d"), open("e", "")}},
		"open at an end":              {[]step{open("d", "b"), key("b"), span("c", "d")}, []step{key("b").whole(), open("c", "")}},
		"open within":                 {[]step{open("cc", "zz"), span("c", "d"), key("x")}, []step{open("c", "")}},
		"open from nothing":           {[]step{open("", "\x00"), span("", "a"), key("")}, []step{open("", "")}},
		"none between":                {[]step{span("a", "b"), span("c", "d"), span("c", "b"), span("b", "b")}, []step{span("a", "b"), span("c", "d")}},
		"empty key":                   {[]step{key(""), span("\x00", "a"), key("a")}, []step{span("", "a\x00")}},
		"bytes ff":                    {[]step{key("\xff"), span("\xff\x00", "\xff\xff"), open("\xff\xff", "")}, []step{open("\xff", "")}},
	} {
		for _, l := range orders(x.add) {
			for _, l := range [][]step{l, slices.Concat(l, l), slices.Concat(l, x.add)} {
				w := newTwin(t, l...)
				if got := w.set.All(); !isAll(got, x.want) {
					t.Errorf("%s: %v: All %s", name, l, shown(got))
				}
				w.alike("bb", "cc", "dd")
			}
		}
	}
}

// whole is a key as a span.
func (x step) whole() step { return span(x.from, x.from+"\x00") }

// orders are all orders of a row.
func orders(l []step) [][]step {
	if len(l) == 0 {
		return [][]step{nil}
	}
	var out [][]step
	for at := range l {
		for _, rest := range orders(slices.Concat(l[:at], l[at+1:])) {
			out = append(out, append([]step{l[at]}, rest...))
		}
	}
	return out
}

// TestOneClosesManyGaps: of a hundred spans that lie apart, one puts some together, from within one to within another, or between.
func TestOneClosesManyGaps(t *testing.T) {
	at := func(i int) string { return string([]byte{'m', byte(i)}) }
	var apart []step
	for i := 2; i < 250; i += 3 {
		apart = append(apart, span(at(i), at(i+2)))
	}
	for low := range 8 {
		for high := 200; high < 208; high++ {
			for _, x := range []step{span(at(low), at(high)), open(at(low), at(high)), open(at(high), at(low)), span(at(high), at(low))} {
				w := newTwin(t, append(slices.Clone(apart), x)...)
				w.tellsAll()
				w = newTwin(t, append([]step{x}, apart...)...)
				w.tellsAll()
			}
		}
	}
}

// TestOddKeysInAllOrders: all of them as keys and as beginnings and ends, rising, falling and in drawn orders, with the same answers.
func TestOddKeysInAllOrders(t *testing.T) {
	keys := oddKeys()
	var l []step
	for at, k := range keys {
		l = append(l, key(k), span(k, keys[at*7%len(keys)]))
	}
	l = append(l, open("\xff\xff\x01", "a"))
	for seed := range int64(30) {
		row := slices.Clone(l)
		switch r := rand.New(rand.NewSource(seed)); seed {
		case 0:
		case 1:
			slices.Reverse(row)
		default:
			r.Shuffle(len(row), func(i, j int) { row[i], row[j] = row[j], row[i] })
		}
		w := newTwin(t)
		for _, x := range row {
			w.add(x)
			w.tellsHas(keys...)
		}
		w.alike(keys...)
	}
}

// TestListsAndEmptyOnes: no list, and one without bytes, are the same.
func TestListsAndEmptyOnes(t *testing.T) {
	empty := func() [][]byte { return [][]byte{nil, {}, withRoom("", 9, 'k')} }
	for _, one := range empty() {
		for _, other := range empty() {
			s := reads.New()
			s.Span(api.Span{From: one, To: other})
			if len(s.All()) != 0 || s.Has(one) || s.Meets([][]byte{other}) {
				t.Errorf("a span without keys: All %s", shown(s.All()))
			}
			s.Key(one)
			if !isAll(s.All(), []step{key("").whole()}) || !s.Has(other) || !s.Meets([][]byte{other}) {
				t.Errorf("the empty key: All %s", shown(s.All()))
			}
			s.Span(api.Span{From: one, To: other, Open: true})
			if !isAll(s.All(), []step{open("", "")}) || !s.Has([]byte("any")) {
				t.Errorf("all keys: All %s", shown(s.All()))
			}
		}
	}
}

// TestAskingChangesNothing, however often and by whatever call.
func TestAskingChangesNothing(t *testing.T) {
	w := newTwin(t)
	for _, x := range []step{key("b"), span("a", "aa"), open("x", "y"), span("c", "b"), key("b\x00"), span("aa", "b"), open("", "")} {
		w.add(x)
		for range 3 {
			w.alike(oddKeys()...)
			w.tellsMeets(oddKeys()...)
		}
	}
}

// TestAskedSeldomOrOften: what is told does not hang on what was asked between.
func TestAskedSeldomOrOften(t *testing.T) {
	row := drawn(rand.New(rand.NewSource(3)), oddKeys()[:15], 400)
	want := newTwin(t, row...)
	want.tellsAll()
	for _, ask := range []func(w *twin){
		func(w *twin) { w.set.All() },
		func(w *twin) { w.set.Has([]byte("a")) },
		func(w *twin) { w.set.Meets(bytesOf("q", "a")) },
		func(w *twin) { w.set.Meets(nil) },
	} {
		for _, seldom := range []int{1, 2, 63, 64, 65, 66, 150} {
			w := newTwin(t)
			for at, x := range row {
				w.add(x)
				if at%seldom == 0 {
					ask(w)
				}
			}
			w.alike(oddKeys()...)
		}
	}
}
