package path_test

import (
	"math"
	"math/rand"
	"slices"
	"testing"

	"codicil/api"
	"codicil/path"
	"codicil/value"
)

func number(n int64) api.Value                { return api.Value{Kind: api.KindInt, Int: n} }
func list(l ...api.Value) api.Value           { return api.Value{Kind: api.KindList, List: l} }
func document(f ...api.Field) api.Value       { return api.Value{Kind: api.KindDoc, Fields: f} }
func field(name string, n int64) api.Field    { return api.Field{Name: name, Value: number(n)} }
func with(name string, v api.Value) api.Field { return api.Field{Name: name, Value: v} }

// fits says whether a value of that kind has such steps.
func fits(v api.Value, step api.Step) bool {
	return step.At < 0 && v.Kind == api.KindDoc || step.At >= 0 && v.Kind == api.KindList
}

// lookup is what Get is to answer.
func lookup(v api.Value, l []api.Step) (api.Value, bool) {
	if len(l) == 0 {
		return v, true
	}
	if !fits(v, l[0]) {
		return api.Value{}, false
	}
	if l[0].At >= 0 {
		if l[0].At >= len(v.List) {
			return api.Value{}, false
		}
		return lookup(v.List[l[0].At], l[1:])
	}
	for _, f := range v.Fields {
		if f.Name == l[0].Name {
			return lookup(f.Value, l[1:])
		}
	}
	return api.Value{}, false
}

// change is what Set (x: what is set) and Remove (x: nil) are to answer of a path: copied on the way back from the path's end.
func change(v api.Value, l []api.Step, x *api.Value) (api.Value, api.Errno) {
	if !fits(v, l[0]) {
		return api.Value{}, api.ErrPathKind
	}
	inner, is := lookup(v, l[:1])
	fresh := len(l) == 1 && x != nil && l[0].At <= len(v.List)
	if !is && !fresh {
		return api.Value{}, api.ErrPathNone
	}
	var err api.Errno
	if len(l) > 1 {
		inner, err = change(inner, l[1:], x)
		x = &inner
	}
	if err != api.OK {
		return api.Value{}, err
	}
	if l[0].At >= 0 {
		v.List = listChanged(v.List, l[0].At, x)
	} else {
		v.Fields = fieldsChanged(v.Fields, l[0].Name, is, x)
	}
	return v, api.OK
}

func listChanged(l []api.Value, at int, x *api.Value) []api.Value {
	var out []api.Value
	for k := 0; k <= len(l); k++ {
		if k == at && x != nil {
			out = append(out, *x)
		}
		if k != at && k < len(l) {
			out = append(out, l[k])
		}
	}
	return out
}

func fieldsChanged(fields []api.Field, name string, is bool, x *api.Value) []api.Field {
	var out []api.Field
	done := false
	for _, f := range fields {
		if !done && (is && f.Name == name || !is && f.Name > name) {
			done = true
			if x != nil {
				out = append(out, with(name, *x))
			}
			if is {
				continue
			}
		}
		out = append(out, f)
	}
	if !done {
		out = append(out, with(name, *x))
	}
	return out
}

// ways are the paths that All is to tell.
func ways(v api.Value) [][]api.Step {
	var out [][]api.Step
	add := func(step api.Step, below api.Value) {
		out = append(out, []api.Step{step})
		for _, l := range ways(below) {
			out = append(out, append([]api.Step{step}, l...))
		}
	}
	if v.Kind == api.KindList {
		for at, below := range v.List {
			add(place(at), below)
		}
	}
	if v.Kind == api.KindDoc {
		for _, f := range v.Fields {
			add(named(f.Name), f.Value)
		}
	}
	return out
}

// asLookedUp, asChanged and asTold hold the calls against these.
func asLookedUp(t *testing.T, v api.Value, l []api.Step) {
	t.Helper()
	want, wantIs := lookup(v, l)
	if got, is := path.Get(v, l); is != wantIs || !value.Same(got, want) {
		t.Fatalf("get %s of %s: %s, %v, not %s, %v", shown(l), shown(v), shown(got), is, shown(want), wantIs)
	}
}

func asChanged(t *testing.T, v api.Value, l []api.Step, x api.Value) {
	t.Helper()
	want, wantErr := change(v, l, &x)
	got, err := path.Set(v, l, x)
	if err != wantErr || !value.Same(got, want) {
		t.Fatalf("set %s of %s: %s, %v, not %s, %v", shown(l), shown(v), shown(got), err, shown(want), wantErr)
	}
	if err == api.OK {
		setHolds(t, v, l, x, got)
	}
	want, wantErr = change(v, l, nil)
	if got, err := path.Remove(v, l); err != wantErr || !value.Same(got, want) {
		t.Fatalf("remove %s of %s: %s, %v, not %s, %v", shown(l), shown(v), shown(got), err, shown(want), wantErr)
	}
}

// setHolds looks at the chapter's section 'What holds', of w, which is v with x set at l.
func setHolds(t *testing.T, v api.Value, l []api.Step, x, w api.Value) {
	t.Helper()
	if got, is := path.Get(w, l); !is || !value.Same(got, x) {
		t.Fatalf("set %s of %s: then there is %s", shown(l), shown(v), shown(got))
	}
	if _, is := path.Get(v, l); !is {
		if again, err := path.Remove(w, l); err != api.OK || !value.Same(again, v) {
			t.Fatalf("set %s of %s, then removed: %s, %v", shown(l), shown(v), shown(again), err)
		}
	}
	for _, other := range path.All(v) {
		n := min(len(other), len(l))
		if slices.Equal(other[:n], l[:n]) {
			continue
		}
		before, was := path.Get(v, other)
		if after, is := path.Get(w, other); is != was || !value.Same(after, before) {
			t.Fatalf("set %s of %s: at %s there is now %s", shown(l), shown(v), shown(other), shown(after))
		}
	}
}

func asTold(t *testing.T, v api.Value) {
	t.Helper()
	if all, want := path.All(v), ways(v); !slices.EqualFunc(all, want, slices.Equal) {
		t.Fatalf("all of %s: %s, not %s", shown(v), shown(all), shown(want))
	}
}

// odd are values that value.Check refuses.
func odd() []api.Value {
	full := api.Value{Bool: true, Int: 7, Text: "\xff", Bytes: []byte{1, 2}, List: []api.Value{number(1), list(number(2)), {}}, Fields: []api.Field{field("b", 3), with("a", document(field("a", 4))), field("b", 5)}}
	out := []api.Value{{}, {Kind: 8, Text: "x"}}
	for kind := range 10 {
		full.Kind = api.Kind(kind)
		out = append(out, full, list(full), document(with("a", full)))
	}
	return append(out,
		document(field("b", 1), field("a", 2)), document(field("a", 1), field("a", 2)), document(field("c", 1), field("a", 2), field("b", 3), field("a", 4)),
		document(field("", 1), field("1", 2), field("\xff", 3), field("a", 4)), document(with("a", list(document(field("b", 1), field("b", 2))))),
		document(with("a", api.Value{Kind: api.KindText, Text: "\xff"}), with("a", list(number(1)))), list(api.Value{Kind: 0}, api.Value{Kind: 255}),
	)
}

// small are all values of few parts and names, right ones and such in which names fall or stand twice.
func small() []api.Value {
	leaves := []api.Value{{Kind: api.KindNull}, number(1), list(), document(), {Kind: 9}}
	names := []string{"a", "b", "c"}
	grown := func(of []api.Value) []api.Value {
		var out []api.Value
		for _, x := range of {
			out = append(out, list(x), list(x, number(8)), list(number(9), x))
			for _, name := range names {
				out = append(out, document(with(name, x)))
				for _, other := range names {
					out = append(out, document(with(name, x), field(other, 8)))
				}
			}
		}
		return out
	}
	one := grown(leaves)
	return slices.Concat(leaves, one, grown(one))
}

// someSteps are all lists of up to n of those.
func someSteps(n int, of []api.Step) [][]api.Step {
	out := [][]api.Step{{}}
	level := out
	for range n {
		var next [][]api.Step
		for _, l := range level {
			for _, step := range of {
				next = append(next, append(slices.Clone(l), step))
			}
		}
		out, level = append(out, next...), next
	}
	return out
}

func TestSmallAndOddValues(t *testing.T) {
	paths := someSteps(3, steps("a b c 0 1 2"))[1:]
	for _, v := range slices.Concat(small(), odd()) {
		asTold(t, v)
		for _, l := range paths {
			asLookedUp(t, v, l)
			asChanged(t, v, l, number(5))
		}
	}
	for _, v := range odd() {
		for _, l := range paths {
			for _, x := range odd() {
				asChanged(t, v, l, x)
			}
		}
	}
}

// Get takes any steps.
func TestGetByAnySteps(t *testing.T) {
	whatever := []api.Step{named("a"), named("b"), named(""), named("\xff"), place(0), place(1), place(3), {Name: "a", At: 1}, {Name: "a", At: -7}, {Name: "b", At: math.MinInt}, {At: math.MaxInt}, {Name: "a", At: 2}, {At: 1000}}
	values := append(odd(), parsed("{a: [1, {a: 2}], b: {a: [3], b: 4}}"), parsed("[[1, 2], {a: [5]}]"), parsed("7"), parsed(`"a"`), parsed("x'00'"), parsed("null"), parsed("true"), parsed("[]"), parsed("{}"))
	for _, v := range values {
		for _, l := range someSteps(3, whatever) {
			asLookedUp(t, v, l)
		}
		for _, l := range noPaths() {
			asLookedUp(t, v, l)
		}
	}
}

func TestGet(t *testing.T) {
	v := parsed("{a: [1, [2, {b: 3}]], é: null, z: {a: {a: {a: x'07'}}}}")
	for at, want := range map[string]string{
		"": "{a: [1, [2, {b: 3}]], é: null, z: {a: {a: {a: x'07'}}}}", "a": "[1, [2, {b: 3}]]", "a 0": "1", "a 1": "[2, {b: 3}]", "a 1 0": "2", "a 1 1": "{b: 3}", "a 1 1 b": "3",
		"é": "null", "z": "{a: {a: {a: x'07'}}}", "z a a": "{a: x'07'}", "z a a a": "x'07'",
	} {
		if x, is := path.Get(v, steps(at)); !is || !value.Same(x, parsed(want)) {
			t.Errorf("%s: %s, %v", at, shown(x), is)
		}
	}
	for _, at := range []string{"b", "0", "a a", "a 2", "a 999", "a 1 2", "a 1 1 0", "a 1 1 a", "a 0 0", "a 0 a", "é 0", "é é", "z 0", "z a b", "z a a a a", "z a a a 0"} {
		if x, is := path.Get(v, steps(at)); is || !value.Same(x, api.Value{}) {
			t.Errorf("%s: %s, %v", at, shown(x), is)
		}
	}
	for _, l := range [][]api.Step{nil, {}} {
		if x, is := path.Get(api.Value{}, l); !is || !value.Same(x, api.Value{}) {
			t.Errorf("nothing: %s, %v", shown(x), is)
		}
	}
	twice := document(field("a", 1), field("a", 2))
	if x, is := path.Get(twice, steps("a")); !is || x.Int != 1 {
		t.Errorf("of two: %v", x)
	}
}

func TestSetFields(t *testing.T) {
	for _, x := range []struct{ v, at, x, want string }{
		{"{}", "a", "1", "{a: 1}"}, {"{b: 1}", "a", "2", "{a: 2, b: 1}"}, {"{b: 1}", "c", "2", "{b: 1, c: 2}"}, {"{b: 1, d: 2}", "c", "3", "{b: 1, c: 3, d: 2}"},
		{"{b: 1, d: 2}", "b", "[]", "{b: [], d: 2}"}, {"{b: 1, d: 2}", "d", "{a: {}}", "{b: 1, d: {a: {}}}"}, {"{b: 1, c: [2], d: 3}", "c", "null", "{b: 1, c: null, d: 3}"},
		{"{a: 1, é: 2}", "z", "3", "{a: 1, z: 3, é: 2}"}, {"{ab: 1}", "a", "2", "{a: 2, ab: 1}"}, {"{a0: 1}", "a", "2", "{a: 2, a0: 1}"}, {"{a: 1}", "ab", "2", "{a: 1, ab: 2}"}, {"{a: 1}", "Z", "2", "{Z: 2, a: 1}"}, {"{a: 1}", "_id", "2", "{_id: 2, a: 1}"},
		{"{a: {b: {c: 1}}}", "a b c", "2", "{a: {b: {c: 2}}}"}, {"{a: {b: {c: 1}}}", "a b b", "2", "{a: {b: {b: 2, c: 1}}}"}, {"{a: {b: {c: 1}}}", "a c", "2", "{a: {b: {c: 1}, c: 2}}"}, {"{a: {b: {c: 1}}}", "a", "{b: 1}", "{a: {b: 1}}"},
		{"{a: [{b: 1}, {b: 2}]}", "a 1 b", "3", "{a: [{b: 1}, {b: 3}]}"}, {"{a: [{b: 1}, {b: 2}]}", "a 0 c", "3", "{a: [{b: 1, c: 3}, {b: 2}]}"}, {"[[[{a: 1}]]]", "0 0 0 a", "x'ff'", "[[[{a: x'ff'}]]]"},
	} {
		sets(t, parsed(x.v), steps(x.at), parsed(x.x), x.want, api.OK)
	}
}

func TestSetPlaces(t *testing.T) {
	for _, x := range []struct{ v, at, x, want string }{
		{"[]", "0", "1", "[1]"}, {"[1]", "0", "2", "[2]"}, {"[1]", "1", "2", "[1, 2]"}, {"[1, 2, 3]", "0", "9", "[9, 2, 3]"}, {"[1, 2, 3]", "1", "[9]", "[1, [9], 3]"}, {"[1, 2, 3]", "2", "null", "[1, 2, null]"}, {"[1, 2, 3]", "3", "{}", "[1, 2, 3, {}]"},
		{"[[1], [2]]", "0 1", "3", "[[1, 3], [2]]"}, {"[[1], [2]]", "1 0", "3", "[[1], [3]]"}, {"[[1], [2]]", "2", "3", "[[1], [2], 3]"}, {"{a: {b: []}}", "a b 0", "1", "{a: {b: [1]}}"}, {"[{a: [[], 1]}]", "0 a 0 0", "2", "[{a: [[2], 1]}]"},
	} {
		sets(t, parsed(x.v), steps(x.at), parsed(x.x), x.want, api.OK)
	}
}

func TestSetAndRemoveRefused(t *testing.T) {
	for _, x := range []struct {
		v, at       string
		set, remove api.Errno
	}{
		{"[]", "1", api.ErrPathNone, api.ErrPathNone}, {"[]", "0 0", api.ErrPathNone, api.ErrPathNone}, {"[1]", "2", api.ErrPathNone, api.ErrPathNone}, {"[1]", "999", api.ErrPathNone, api.ErrPathNone}, {"[[1]]", "0 2", api.ErrPathNone, api.ErrPathNone}, {"[[1]]", "1 0", api.ErrPathNone, api.ErrPathNone}, {"[[1]]", "1 a", api.ErrPathNone, api.ErrPathNone},
		{"{}", "a b", api.ErrPathNone, api.ErrPathNone}, {"{}", "a 0", api.ErrPathNone, api.ErrPathNone}, {"{a: {}}", "a b c", api.ErrPathNone, api.ErrPathNone}, {"{a: [1]}", "a 1 0", api.ErrPathNone, api.ErrPathNone}, {"{a: [1]}", "b 0 0 0 0", api.ErrPathNone, api.ErrPathNone},
		{"[]", "a", api.ErrPathKind, api.ErrPathKind}, {"{}", "0", api.ErrPathKind, api.ErrPathKind}, {"1", "a", api.ErrPathKind, api.ErrPathKind}, {"null", "0", api.ErrPathKind, api.ErrPathKind}, {`"a"`, "0", api.ErrPathKind, api.ErrPathKind}, {"x'00'", "0", api.ErrPathKind, api.ErrPathKind}, {"true", "a", api.ErrPathKind, api.ErrPathKind},
		{"{a: 1}", "a b", api.ErrPathKind, api.ErrPathKind}, {"{a: 1}", "a b c", api.ErrPathKind, api.ErrPathKind}, {"{a: 1}", "a 0", api.ErrPathKind, api.ErrPathKind}, {"{a: [1]}", "a b", api.ErrPathKind, api.ErrPathKind}, {"{a: [1]}", "a b 0", api.ErrPathKind, api.ErrPathKind}, {"[{a: 1}]", "0 0", api.ErrPathKind, api.ErrPathKind}, {"[{a: 1}]", "0 a 5", api.ErrPathKind, api.ErrPathKind}, {"[1]", "0 999", api.ErrPathKind, api.ErrPathKind}, {"[1]", "a 999", api.ErrPathKind, api.ErrPathKind},
		{"[]", "0", api.OK, api.ErrPathNone}, {"[1]", "1", api.OK, api.ErrPathNone}, {"{}", "a", api.OK, api.ErrPathNone}, {"{a: {b: 1}}", "a a", api.OK, api.ErrPathNone}, {"{a: [[]]}", "a 0 0", api.OK, api.ErrPathNone},
	} {
		v, l := parsed(x.v), steps(x.at)
		if w, err := path.Set(v, l, number(5)); err != x.set || err != api.OK && !value.Same(w, api.Value{}) {
			t.Errorf("set %s of %s: %s, %v", x.at, x.v, shown(w), err)
		}
		removes(t, v, l, "", x.remove)
	}
}

func TestRemove(t *testing.T) {
	for _, x := range []struct{ v, at, want string }{
		{"{a: 1}", "a", "{}"}, {"{a: 1, b: 2, c: 3}", "a", "{b: 2, c: 3}"}, {"{a: 1, b: 2, c: 3}", "b", "{a: 1, c: 3}"}, {"{a: 1, b: 2, c: 3}", "c", "{a: 1, b: 2}"},
		{"[1]", "0", "[]"}, {"[1, 2, 3]", "0", "[2, 3]"}, {"[1, 2, 3]", "1", "[1, 3]"}, {"[1, 2, 3]", "2", "[1, 2]"},
		{"{a: [1, {b: 2, c: [3]}]}", "a 1 c", "{a: [1, {b: 2}]}"}, {"{a: [1, {b: 2, c: [3]}]}", "a 1 c 0", "{a: [1, {b: 2, c: []}]}"}, {"{a: [1, {b: 2, c: [3]}]}", "a 1", "{a: [1]}"}, {"{a: [1, {b: 2, c: [3]}]}", "a 0", "{a: [{b: 2, c: [3]}]}"}, {"{a: [1, {b: 2, c: [3]}]}", "a", "{}"}, {"[[], [[1, 2]], 3]", "1 0 1", "[[], [[1]], 3]"},
	} {
		removes(t, parsed(x.v), steps(x.at), x.want, api.OK)
	}
}

// Sixteen steps down and up again.
func TestLongestPaths(t *testing.T) {
	v, want, without := number(1), number(2), api.Value{}
	for k := range 16 {
		if k == 0 {
			v, want, without = list(v), list(want), list()
			continue
		}
		if k%2 == 1 {
			v, want, without = document(field("a", 0), with("k", v)), document(field("a", 0), with("k", want)), document(field("a", 0), with("k", without))
		} else {
			v, want, without = list(number(7), v, number(8)), list(number(7), want, number(8)), list(number(7), without, number(8))
		}
	}
	l := slices.Repeat(steps("k 1"), 8)
	l[15] = place(0)
	if got, err := path.Set(v, l, number(2)); err != api.OK || !value.Same(got, want) {
		t.Errorf("%s, %v", shown(got), err)
	}
	if got, err := path.Remove(v, l); err != api.OK || !value.Same(got, without) {
		t.Errorf("%s, %v", shown(got), err)
	}
	asChanged(t, v, l, number(2))
	l[15] = place(1)
	asChanged(t, v, l, document())
	l[15] = place(2)
	asChanged(t, v, l, document())
	l[14] = named("z")
	asChanged(t, v, l, document())
}

// Whether what is set, or comes out, is a value within the limits is not looked at.
func TestSetBeyondLimits(t *testing.T) {
	deep := number(1)
	for range 20 {
		deep = list(deep)
	}
	wide := list(slices.Repeat([]api.Value{number(3)}, 2000)...)
	for _, v := range []api.Value{deep, wide, document(with("a", wide), with("b", deep)), list(wide, deep)} {
		for _, x := range []api.Value{deep, wide, {Kind: api.KindText, Text: "\xff"}, {Kind: api.KindBytes, Bytes: make([]byte, 5000)}} {
			for _, l := range [][]api.Step{steps("0"), steps("0 0"), steps("a"), steps("a 999"), steps("b 0"), steps("c"), steps("999"), steps("0 999"), steps("1 0 0 0 0 0 0 0 0 0 0 0 0 0 0 0")} {
				asChanged(t, v, l, x)
			}
		}
	}
	row := list(slices.Repeat([]api.Value{number(3)}, 999)...)
	asChanged(t, row, steps("998"), number(1))
	asChanged(t, row, steps("999"), number(1))
	asChanged(t, list(row.List[:998]...), steps("999"), number(1))
}

func TestAll(t *testing.T) {
	for _, s := range []string{"null", "true", "-5", `"abc"`, "x'0102'", "[]", "{}"} {
		tells(t, parsed(s))
	}
	tells(t, parsed("[1]"), "0")
	tells(t, parsed("[1, 2, 3]"), "0", "1", "2")
	tells(t, parsed("{b: 1, a: 2}"), "a", "b")
	tells(t, parsed("[[], {}, [[]]]"), "0", "1", "2", "2 0")
	tells(t, parsed("{a: {a: {a: 1}, b: [1, {c: 2}]}, b: 3, é: [{}]}"), "a", "a a", "a a a", "a b", "a b 0", "a b 1", "a b 1 c", "b", "é", "é 0")
	tells(t, document(field("b", 1), field("a", 2)), "b", "a")
	// Only what its kind has is below a value here.
	both := api.Value{List: []api.Value{number(1), number(2)}, Fields: []api.Field{field("a", 1)}}
	for kind, want := range map[api.Kind][]string{0: nil, api.KindNull: nil, api.KindBool: nil, api.KindInt: nil, api.KindText: nil, api.KindBytes: nil, api.KindList: {"0", "1"}, api.KindDoc: {"a"}, 8: nil, 255: nil} {
		both.Kind = kind
		tells(t, both, want...)
	}
	// Names and places are as they are.
	long := list(slices.Repeat([]api.Value{{}}, 1500)...)
	if all := path.All(long); len(all) != 1500 || !slices.Equal(all[1499], []api.Step{place(1499)}) {
		t.Errorf("%d", len(all))
	}
	for _, name := range noNames() {
		if all := path.All(document(with(name, list(number(1))))); len(all) != 2 || !slices.Equal(all[0], []api.Step{named(name)}) || !slices.Equal(all[1], []api.Step{named(name), place(0)}) {
			t.Errorf("%q: %v", name, all)
		}
	}
	deep := number(1)
	for range 40 {
		deep = list(deep)
	}
	if all := path.All(deep); len(all) != 40 || len(all[39]) != 40 {
		t.Errorf("%d", len(all))
	}
	twice := document(field("a", 1), with("a", list(number(2))))
	if all := path.All(twice); len(all) != 3 || !slices.Equal(all[0], all[1]) || len(all[2]) != 2 {
		t.Errorf("%v", all)
	}
}

// random is a right value, of that depth at most.
func random(r *rand.Rand, depth int) api.Value {
	k := r.Intn(8)
	if depth == 1 {
		k %= 4
	}
	switch {
	case k == 0:
		return api.Value{Kind: api.KindText, Text: "é"}
	case k == 1:
		return api.Value{Kind: api.KindBytes, Bytes: []byte{1, 2}}
	case k < 4:
		return number(int64(r.Intn(100)))
	case k < 6:
		v := list()
		for range r.Intn(4) {
			v.List = append(v.List, random(r, depth-1))
		}
		return v
	}
	v := document()
	for _, name := range []string{"A", "a", "ab", "b", "z", "é"} {
		if r.Intn(2) == 0 {
			v.Fields = append(v.Fields, with(name, random(r, depth-1)))
		}
	}
	return v
}

func TestManyValues(t *testing.T) {
	r := rand.New(rand.NewSource(66))
	more := steps("a aa b z é Z 0 1 2 3 999")
	for range 300 {
		v := random(r, 6)
		asTold(t, v)
		for _, l := range path.All(v) {
			asLookedUp(t, v, l)
			asChanged(t, v, l, random(r, 2))
			l = append(l, more[r.Intn(len(more))])
			asLookedUp(t, v, l)
			asChanged(t, v, l, random(r, 2))
			l[len(l)/2] = more[r.Intn(len(more))]
			asLookedUp(t, v, l)
			asChanged(t, v, l, random(r, 2))
		}
	}
}

// With parts nested as deep as is promised, and with many of them.
func TestGreatValues(t *testing.T) {
	deep, l := number(1), slices.Repeat([]api.Step{place(0)}, 1<<16-1)
	for range l {
		deep = list(deep)
	}
	if x, is := path.Get(deep, l); !is || x.Int != 1 {
		t.Errorf("%v", is)
	}
	if x, is := path.Get(deep, append(l, place(0))); is {
		t.Errorf("%v", shown(x))
	}
	w, err := path.Set(deep, l[:16], number(2))
	if x, is := path.Get(w, l[:16]); err != api.OK || !is || x.Int != 2 {
		t.Errorf("%v", err)
	}
	w, err = path.Remove(deep, l[:16])
	if x, is := path.Get(w, l[:15]); err != api.OK || !is || len(x.List) != 0 {
		t.Errorf("%v", err)
	}
	inner, _ := path.Get(deep, l[:len(l)-1000])
	if all := path.All(inner); len(all) != 1000 || len(all[999]) != 1000 {
		t.Errorf("%d", len(all))
	}
	wide := document(with("a", list(slices.Repeat([]api.Value{number(3)}, 1<<18)...)))
	asChanged(t, document(with("a", list(wide))), steps("a 1"), number(1))
	if all := path.All(wide); len(all) != 1<<18+1 {
		t.Errorf("%d", len(all))
	}
}
