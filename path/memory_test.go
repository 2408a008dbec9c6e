package path_test

import (
	"bytes"
	"slices"
	"testing"

	"codicil/api"
	"codicil/path"
	"codicil/value"
)

// rich is a value with memory of all sorts, and room behind each of its lists.
func rich() api.Value {
	room := func(l ...api.Value) []api.Value { return append(make([]api.Value, 0, len(l)+3), l...) }
	fields := func(f ...api.Field) []api.Field { return append(make([]api.Field, 0, len(f)+2), f...) }
	octets := func(b ...byte) api.Value {
		return api.Value{Kind: api.KindBytes, Bytes: append(make([]byte, 0, len(b)+5), b...)}
	}
	inner := document(fields(with("x", octets(9, 8)), with("z", list(room(octets(1), number(2))...)))...)
	return document(fields(
		with("a", octets(0, 1, 255)),
		with("b", list(room(inner, number(7), octets(4), list(room(octets(5))...))...)),
		with("d", document(fields(with("x", list()), with("y", octets(6)))...)),
		with("e", octets()),
	)...)
}

// spoil writes into all memory that v has, also into room behind its lists.
func spoil(v *api.Value) {
	for at := range v.Bytes[:cap(v.Bytes)] {
		v.Bytes[:cap(v.Bytes)][at] ^= 0x5a
	}
	for at := range v.List[:cap(v.List)] {
		spoil(&v.List[:cap(v.List)][at])
	}
	for at := range v.Fields[:cap(v.Fields)] {
		f := &v.Fields[:cap(v.Fields)][at]
		f.Name = "spoilt"
		spoil(&f.Value)
	}
	v.Kind, v.Int, v.Text = 99, v.Int+1, "spoilt"
}

func spoilSteps(l []api.Step) {
	for at := range l[:cap(l)] {
		l[:cap(l)][at] = api.Step{Name: "spoilt", At: 77}
	}
}

// sameWithRoom says whether two are the same, also behind their lists' lengths.
func sameWithRoom(a, b api.Value) bool {
	fieldsAlike := func(f, g api.Field) bool { return f.Name == g.Name && sameWithRoom(f.Value, g.Value) }
	return a.Kind == b.Kind && a.Int == b.Int && a.Text == b.Text && a.Bool == b.Bool &&
		len(a.Bytes) == len(b.Bytes) && bytes.Equal(a.Bytes[:cap(a.Bytes)], b.Bytes[:cap(b.Bytes)]) &&
		len(a.List) == len(b.List) && slices.EqualFunc(a.List[:cap(a.List)], b.List[:cap(b.List)], sameWithRoom) &&
		len(a.Fields) == len(b.Fields) && slices.EqualFunc(a.Fields[:cap(a.Fields)], b.Fields[:cap(b.Fields)], fieldsAlike)
}

// withRoom is l with other steps in the room behind it.
func withRoom(l []api.Step) []api.Step {
	return append(slices.Clone(l), named("q"), place(5), api.Step{Name: "r", At: 3})[:len(l)]
}

func roomStays(l []api.Step) bool {
	return slices.Equal(l[len(l):len(l)+3], []api.Step{named("q"), place(5), {Name: "r", At: 3}})
}

// somePaths lead to all that rich has, to where something may be set, and nowhere.
func somePaths() [][]api.Step {
	out := ways(rich())
	for _, s := range []string{"A", "c", "z", "b 4", "b 3 1", "b 0 y", "b 0 z 2", "d a", "d x 0", "b 5", "a 0", "q r", "b 0 z 9", "", "0"} {
		out = append(out, steps(s))
	}
	return out
}

func TestArgumentsStay(t *testing.T) {
	v, x := rich(), rich()
	for _, s := range somePaths() {
		l := withRoom(s)
		path.Get(v, l)
		path.Set(v, l, x)
		path.Set(v, l, v)
		path.Remove(v, l)
		path.Print(l)
		path.All(v)
		if !sameWithRoom(v, rich()) || !sameWithRoom(x, rich()) {
			t.Fatalf("%v: a value was changed", l)
		}
		if !slices.Equal(l, s) || !roomStays(l) {
			t.Fatalf("%v: steps were changed", s)
		}
	}
}

// What lies behind a list's length is not its own.
func TestRoomBehindIsNotRead(t *testing.T) {
	hidden := list([]api.Value{number(1), number(2), number(3)}[:1]...)
	fields := document([]api.Field{field("b", 1), field("a", 2), field("c", 3)}[:1]...)
	asLookedUp(t, hidden, steps("1"))
	asLookedUp(t, fields, steps("a"))
	sets(t, hidden, steps("1"), number(5), "[1, 5]", api.OK)
	sets(t, hidden, steps("2"), number(5), "", api.ErrPathNone)
	removes(t, hidden, steps("0"), "[]", api.OK)
	removes(t, hidden, steps("1"), "", api.ErrPathNone)
	sets(t, fields, steps("a"), number(5), "{a: 5, b: 1}", api.OK)
	sets(t, fields, steps("c"), number(5), "{b: 1, c: 5}", api.OK)
	removes(t, fields, steps("b"), "{}", api.OK)
	removes(t, fields, steps("c"), "", api.ErrPathNone)
	tells(t, hidden, "0")
	tells(t, fields, "b")
	if s, err := path.Print(steps("a 0 b")[:1]); s != "a" || err != api.OK {
		t.Errorf("%s, %v", s, err)
	}
	sets(t, parsed("{a: 1}"), steps("a b")[:1], number(5), "{a: 5}", api.OK)
	if _, is := path.Get(parsed("{a: 1}"), steps("a b")[:1]); !is {
		t.Error("a step behind the last was read")
	}
	if s, err := path.Print(steps("a")[:0]); s != "" || err != api.ErrPathForm {
		t.Errorf("%s, %v", s, err)
	}
}

func TestWhatIsGotIsNew(t *testing.T) {
	v := rich()
	for _, l := range somePaths() {
		want, _ := lookup(rich(), l)
		first, _ := path.Get(v, l)
		second, _ := path.Get(v, l)
		spoil(&first)
		if !sameWithRoom(v, rich()) || !value.Same(second, want) {
			t.Fatalf("%v: what came out is somebody else's", l)
		}
	}
	held, _ := path.Get(v, steps("b 0"))
	spoil(&v)
	if want, _ := lookup(rich(), steps("b 0")); !value.Same(held, want) {
		t.Error("what came out is the argument's")
	}
}

func TestWhatIsChangedIsNew(t *testing.T) {
	for _, l := range somePaths() {
		if len(l) == 0 {
			continue
		}
		x := rich()
		v := rich()
		calls := map[string]func() (api.Value, api.Errno){
			"set":           func() (api.Value, api.Errno) { return path.Set(v, l, x) },
			"set to itself": func() (api.Value, api.Errno) { return path.Set(v, l, v) },
			"remove":        func() (api.Value, api.Errno) { return path.Remove(v, l) },
		}
		for name, call := range calls {
			first, err := call()
			if err != api.OK {
				continue
			}
			want := value.Clone(first)
			second, _ := call()
			spoil(&first)
			if !sameWithRoom(v, rich()) || !sameWithRoom(x, rich()) || !value.Same(second, want) {
				t.Fatalf("%s %v: what came out is somebody else's", name, l)
			}
			sharesNothing(t, second)
		}
		first, err := path.Set(v, l, x)
		second, _ := path.Remove(v, l)
		want, other := value.Clone(first), value.Clone(second)
		spoil(&v)
		spoil(&x)
		if err == api.OK && (!value.Same(first, want) || !value.Same(second, other)) {
			t.Fatalf("%v: what came out is an argument's", l)
		}
	}
}

// sharesNothing looks whether each list below v has memory that no other one has, in its room neither.
func sharesNothing(t *testing.T, v api.Value) {
	t.Helper()
	var parts []*api.Value
	var gather func(v *api.Value)
	gather = func(v *api.Value) {
		parts = append(parts, v)
		for at := range v.List {
			gather(&v.List[at])
		}
		for at := range v.Fields {
			gather(&v.Fields[at].Value)
		}
	}
	gather(&v)
	bytesSeen, valuesSeen, fieldsSeen := map[*byte]int{}, map[*api.Value]int{}, map[*api.Field]int{}
	for at, part := range parts {
		seen(t, bytesSeen, part.Bytes, at)
		seen(t, valuesSeen, part.List, at)
		seen(t, fieldsSeen, part.Fields, at)
	}
}

func seen[T any](t *testing.T, in map[*T]int, l []T, at int) {
	t.Helper()
	for k := range l[:cap(l)] {
		p := &l[:cap(l)][k]
		if other, is := in[p]; is {
			t.Fatalf("parts %d and %d share memory", other, at)
		}
		in[p] = at
	}
}

func TestPathsAreNew(t *testing.T) {
	v := rich()
	want := ways(rich())
	all, again := path.All(v), path.All(v)
	where := map[*api.Step]int{}
	for at, l := range append(slices.Clone(all), again...) {
		seen(t, where, l, at)
	}
	lists := map[*[]api.Step]int{}
	seen(t, lists, all, 0)
	seen(t, lists, again, 1)
	for at := range all {
		spoilSteps(all[at])
		for k := at + 1; k < len(all); k++ {
			if !slices.Equal(all[k], want[k]) {
				t.Fatalf("paths %d and %d share memory", at, k)
			}
		}
	}
	spoil(&v)
	if !slices.EqualFunc(again, want, slices.Equal) {
		t.Error("what came out is somebody else's")
	}
	first, _, _ := path.Parse("a.b[0]")
	second, _, _ := path.Parse("a.b[0]")
	spoilSteps(first)
	if third, _, _ := path.Parse("a.b[0]"); !slices.Equal(second, steps("a b 0")) || !slices.Equal(third, second) {
		t.Error("what was parsed is kept")
	}
}

// What a call was given and what it answered leaves no trace in later ones, nor does an error.
func TestNothingIsKept(t *testing.T) {
	v := parsed("{a: [1, 2]}")
	for range 2 {
		for _, l := range noPaths() {
			path.Set(v, l, v)
			path.Remove(v, l)
			path.Print(l)
		}
		path.Parse("a[")
		path.Parse("a[0].b")
		sets(t, v, steps("a 2"), number(5), "{a: [1, 2, 5]}", api.OK)
		sets(t, v, steps("a 3"), number(5), "", api.ErrPathNone)
		removes(t, v, steps("a 0"), "{a: [2]}", api.OK)
		takes(t, "a.b[0].c", steps("a b 0 c"))
		tells(t, v, "a", "a 0", "a 1")
	}
}

func TestNilAndEmpty(t *testing.T) {
	empty := func(kind api.Kind) api.Value {
		return api.Value{Kind: kind, Bytes: []byte{}, List: []api.Value{}, Fields: []api.Field{}}
	}
	for _, kind := range []api.Kind{api.KindList, api.KindDoc} {
		for _, v := range []api.Value{{Kind: kind}, empty(kind)} {
			tells(t, v)
			asLookedUp(t, v, nil)
			for _, l := range someSteps(2, steps("a 0 1"))[1:] {
				asLookedUp(t, v, l)
				asChanged(t, v, l, empty(api.KindBytes))
				asChanged(t, list(v), l, empty(api.KindDoc))
				asChanged(t, document(with("a", v)), l, empty(api.KindList))
			}
		}
	}
}
