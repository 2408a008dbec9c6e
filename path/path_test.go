package path_test

import (
	"fmt"
	"math"
	"slices"
	"strconv"
	"strings"
	"testing"

	"codicil/api"
	"codicil/path"
	"codicil/value"
)

func named(name string) api.Step { return api.Step{Name: name, At: -1} }
func place(at int) api.Step      { return api.Step{At: at} }

// steps are those that a text tells with blanks between: it shares nothing with the program.
func steps(s string) []api.Step {
	var out []api.Step
	for _, word := range strings.Fields(s) {
		if at, err := strconv.Atoi(word); err == nil {
			out = append(out, place(at))
		} else {
			out = append(out, named(word))
		}
	}
	return out
}

// parsed is the value that a text tells.
func parsed(s string) api.Value {
	v, err, at := value.Parse(s)
	if err != api.OK {
		panic(fmt.Sprint(s, err, at))
	}
	return v
}

// shown is the beginning of a thing's text: some are great.
func shown(thing any) string {
	s := fmt.Sprint(thing)
	return s[:min(len(s), 200)]
}

// takes looks whether s is read as that path, and the path is written as s.
func takes(t *testing.T, s string, want []api.Step) {
	t.Helper()
	if l, err, at := path.Parse(s); err != api.OK || at != 0 || !slices.Equal(l, want) {
		t.Errorf("%.80q: %s, %v at %d", s, shown(l), err, at)
	}
	if got, err := path.Print(want); err != api.OK || got != s {
		t.Errorf("%s: %.80q, %v, not %.80q", shown(want), got, err, s)
	}
}

// refuses looks whether s is no path's text, wrong at that place.
func refuses(t *testing.T, s string, want int) {
	t.Helper()
	if l, err, at := path.Parse(s); err != api.ErrPathForm || at != want || len(l) != 0 {
		t.Errorf("%.80q: %s, %v at %d, not at %d", s, shown(l), err, at, want)
	}
}

func TestFirstExample(t *testing.T) {
	takes(t, "a.b[0].c", []api.Step{{Name: "a", At: -1}, {Name: "b", At: -1}, {At: 0}, {Name: "c", At: -1}})
	takes(t, "[2]", []api.Step{{At: 2}})
	for s, at := range map[string]int{"a.": 2, ".a": 0, "a[01]": 3, "a[1000]": 5, "a[]": 2, "a[1]b": 4, "": 0} {
		refuses(t, s, at)
	}
}

func TestSecondExample(t *testing.T) {
	v := parsed("{a: [1, 2]}")
	if x, is := path.Get(v, steps("a 1")); !is || !value.Same(x, parsed("2")) {
		t.Errorf("%v, %v", x, is)
	}
	for _, x := range []struct {
		at, x, want string
		err         api.Errno
	}{
		{"a 2", "5", "{a: [1, 2, 5]}", api.OK},
		{"a 3", "5", "", api.ErrPathNone},
		{"b c", "5", "", api.ErrPathNone},
		{"a x", "5", "", api.ErrPathKind},
		{"b", "1", "{a: [1, 2], b: 1}", api.OK},
	} {
		sets(t, v, steps(x.at), parsed(x.x), x.want, x.err)
	}
	removes(t, v, steps("a 0"), "{a: [2]}", api.OK)
	tells(t, v, "a", "a 0", "a 1")
}

// holds looks whether what a call answered is the value of that text, or that error and nothing.
func holds(t *testing.T, asked string, got api.Value, gotErr api.Errno, want string, err api.Errno) {
	t.Helper()
	v := api.Value{}
	if err == api.OK {
		v = parsed(want)
	}
	if gotErr != err || !value.Same(got, v) {
		t.Errorf("%s: %s, %v, not %s, %v", asked, shown(got), gotErr, want, err)
	}
}

func sets(t *testing.T, v api.Value, l []api.Step, x api.Value, want string, err api.Errno) {
	t.Helper()
	got, gotErr := path.Set(v, l, x)
	holds(t, "set "+shown(l), got, gotErr, want, err)
}

func removes(t *testing.T, v api.Value, l []api.Step, want string, err api.Errno) {
	t.Helper()
	got, gotErr := path.Remove(v, l)
	holds(t, "remove "+shown(l), got, gotErr, want, err)
}

// tells looks whether just those are the paths below v, and Get finds them.
func tells(t *testing.T, v api.Value, want ...string) {
	t.Helper()
	all := path.All(v)
	if !slices.EqualFunc(all, want, func(l []api.Step, s string) bool { return slices.Equal(l, steps(s)) }) {
		t.Errorf("%s: %s, not %s", shown(v), shown(all), shown(want))
	}
	for _, l := range all {
		if _, is := path.Get(v, l); !is {
			t.Errorf("%s: no %s", shown(v), shown(l))
		}
	}
}

func TestErrorNumbers(t *testing.T) {
	for want, err := range map[int]api.Errno{60: api.ErrPathForm, 61: api.ErrPathNone, 62: api.ErrPathKind} {
		if int(err) != want {
			t.Errorf("%d, not %d", err, want)
		}
	}
}

func TestPrint(t *testing.T) {
	for _, x := range []struct {
		l    []api.Step
		want string
	}{
		{steps("a"), "a"}, {steps("a b"), "a.b"}, {steps("a b c"), "a.b.c"}, {steps("_id"), "_id"},
		{steps("0"), "[0]"}, {steps("0 0"), "[0][0]"}, {steps("0 a"), "[0].a"}, {steps("a 0"), "a[0]"}, {steps("a 0 b"), "a[0].b"},
		{steps("7"), "[7]"}, {steps("10"), "[10]"}, {steps("99"), "[99]"}, {steps("100"), "[100]"}, {steps("999"), "[999]"},
		{steps("é €1 999 \U0001f600"), "é.€1[999].\U0001f600"},
	} {
		takes(t, x.want, x.l)
	}
}

// noNames are texts that no field may be called.
func noNames() []string {
	return []string{"", "1", "1a", "0", "a b", " a", "a ", "a-b", "-1", "a.b", ".", "a[0]", "[", "]", "a]", "$", "é.", "a\x00", "\n", "\x7f", "é é", "1é",
		"\xff", "a\xff", "\xffa", "a\xc3", "\xa9a", "a\xc0\x80", "a\xed\xa0\x80", "a\xf4\x90\x80\x80", strings.Repeat("a", 33), strings.Repeat("é", 33), strings.Repeat("a", 32) + "\xff"}
}

// noSteps are such that are neither a field nor a place.
func noSteps() []api.Step {
	out := []api.Step{
		{Name: "a", At: 0}, {Name: "a", At: 1}, {Name: "a", At: 999}, {Name: "a", At: -2}, {Name: "a", At: math.MinInt}, {Name: "a", At: 1000},
		{At: -1}, {At: -2}, {At: -999}, {At: math.MinInt}, {At: 1000}, {At: 1001}, {At: 9990}, {At: math.MaxInt}, {At: math.MaxInt32 + 1}, {At: 1 << 16},
	}
	for _, name := range noNames() {
		out = append(out, named(name))
	}
	return out
}

// noPaths are lists of steps that are none: empty, too many, with one step that is none at any place.
func noPaths() [][]api.Step {
	out := [][]api.Step{nil, {}}
	for _, n := range []int{17, 18, 32, 1000} {
		out = append(out, slices.Repeat(steps("a"), n), slices.Repeat(steps("0"), n))
	}
	for _, wrong := range noSteps() {
		out = append(out, []api.Step{wrong}, []api.Step{wrong, named("a")}, []api.Step{named("a"), wrong}, []api.Step{place(0), wrong, named("a")})
		whole := slices.Repeat(steps("a 0"), 8)
		whole[15] = wrong
		out = append(out, whole)
	}
	return out
}

func TestPrintOfNoPath(t *testing.T) {
	for _, l := range noPaths() {
		if s, err := path.Print(l); s != "" || err != api.ErrPathForm {
			t.Errorf("%s: %.80q, %v", shown(l), s, err)
		}
	}
}

// Set and Remove look at the path ahead of all else.
func TestChangeByNoPath(t *testing.T) {
	values := []api.Value{{}, parsed("null"), parsed("[]"), parsed("{}"), parsed("{a: [{a: 1}, 2]}"), parsed("[{a: 1}, 2]"), {Kind: 99, List: []api.Value{{}}}}
	for _, l := range noPaths() {
		for _, v := range values {
			if w, err := path.Set(v, l, parsed("5")); err != api.ErrPathForm || !value.Same(w, api.Value{}) {
				t.Errorf("%s set by %s: %s, %v", shown(v), shown(l), shown(w), err)
			}
			if w, err := path.Remove(v, l); err != api.ErrPathForm || !value.Same(w, api.Value{}) {
				t.Errorf("%s removed by %s: %s, %v", shown(v), shown(l), shown(w), err)
			}
		}
	}
}

func TestLongestNames(t *testing.T) {
	for _, r := range []string{"a", "é", "€", "\U0010ffff"} {
		for _, n := range []int{1, 31, 32} {
			name := strings.Repeat(r, n)
			takes(t, name, []api.Step{named(name)})
			takes(t, "a."+name+"[1]", []api.Step{named("a"), named(name), place(1)})
		}
		name := strings.Repeat(r, 33)
		refuses(t, name, 0)
		refuses(t, "é."+name+".b", 3)
	}
}

func TestHowManySteps(t *testing.T) {
	for _, word := range []string{"a", "é", "0", "999"} {
		for n := 1; n <= 16; n++ {
			l := slices.Repeat(steps(word), n)
			takes(t, textOf(l), l)
		}
		whole := slices.Repeat(steps(word), 16)
		for _, more := range []string{"a", "0"} {
			l := append(slices.Clone(whole), steps(more)...)
			refuses(t, textOf(l), len(textOf(whole)))
			refuses(t, textOf(append(l, named("b"))), len(textOf(whole)))
		}
		for _, more := range []string{".", "[", "]", ".1", "[x", "[01]", ".\xff"} {
			refuses(t, textOf(whole)+more, len(textOf(whole)))
		}
	}
	mixed := slices.Repeat(steps("a 0"), 8)
	takes(t, "a[0].a[0].a[0].a[0].a[0].a[0].a[0].a[0]", mixed)
	refuses(t, textOf(mixed)+".b", 39)
	refuses(t, textOf(mixed)+"b", 39)
	// Only what stands ahead of the seventeenth step is told ahead of it.
	refuses(t, strings.Repeat("a.", 15)+"1.a", 30)
	refuses(t, strings.Repeat("a.", 16)+"1", 31)
}

// textOf is a path as a text, as the chapter says it.
func textOf(l []api.Step) string {
	s := ""
	for at, step := range l {
		switch {
		case step.At >= 0:
			s += fmt.Sprintf("[%d]", step.At)
		case at > 0:
			s += "." + step.Name
		default:
			s += step.Name
		}
	}
	return s
}
