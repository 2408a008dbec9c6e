package value_test

import (
	"math"
	"math/rand"
	"slices"
	"strings"
	"testing"
	"unicode/utf8"

	"codicil/api"
	"codicil/value"
)

func null() api.Value            { return api.Value{Kind: api.KindNull} }
func boolean(b bool) api.Value   { return api.Value{Kind: api.KindBool, Bool: b} }
func number(n int64) api.Value   { return api.Value{Kind: api.KindInt, Int: n} }
func text(s string) api.Value    { return api.Value{Kind: api.KindText, Text: s} }
func octets(b ...byte) api.Value { return api.Value{Kind: api.KindBytes, Bytes: b} }
func list(l ...api.Value) api.Value {
	return api.Value{Kind: api.KindList, List: l}
}
func doc(f ...api.Field) api.Value {
	return api.Value{Kind: api.KindDoc, Fields: f}
}
func field(name string, v api.Value) api.Field { return api.Field{Name: name, Value: v} }

// nested is v in lists and documents by turns, of that many values in one another in all.
func nested(depth int, v api.Value) api.Value {
	for n := 1; n < depth; n++ {
		if n%2 == 0 {
			v = list(v)
		} else {
			v = doc(field("a", v))
		}
	}
	return v
}

// same looks at the values' text alone, so that it hangs on no call of the package.
func same(a, b api.Value) bool { return shown(a) == shown(b) }

func shown(v api.Value) string {
	var b strings.Builder
	show(&b, v)
	return b.String()
}

func show(b *strings.Builder, v api.Value) {
	b.WriteString(strings.Join([]string{"(", string(rune('0' + int(v.Kind))), map[bool]string{true: "T", false: "F"}[v.Bool], hexOf(uint64(v.Int)), quoted(v.Text), quoted(string(v.Bytes))}, " "))
	for _, x := range v.List {
		show(b, x)
	}
	b.WriteString("|")
	for _, f := range v.Fields {
		b.WriteString(quoted(f.Name))
		show(b, f.Value)
	}
	b.WriteString(")")
}

func quoted(s string) string {
	out := "<"
	for _, c := range []byte(s) {
		out += hexOf(uint64(c)) + "."
	}
	return out + ">"
}

func hexOf(n uint64) string {
	out := ""
	for ; n > 0; n >>= 4 {
		out = string("0123456789abcdef"[n&15]) + out
	}
	return out
}

// spoil writes into all memory that v has, also into room behind its lists.
func spoil(v *api.Value) {
	for i := range v.Bytes[:cap(v.Bytes)] {
		v.Bytes[:cap(v.Bytes)][i] ^= 0xff
	}
	for i := range v.List[:cap(v.List)] {
		spoil(&v.List[:cap(v.List)][i])
	}
	for i := range v.Fields[:cap(v.Fields)] {
		f := &v.Fields[:cap(v.Fields)][i]
		spoil(&f.Value)
		f.Name = "spoilt"
	}
	v.Kind, v.Int, v.Bool, v.Text = 99, v.Int+1, !v.Bool, "spoilt"
}

// rich has all kinds, some of them in one another.
func rich() api.Value {
	return doc(
		field("a", list(number(-5), octets(1, 2, 3), list(octets(4)), doc(field("x", octets(5))))),
		field("b", doc(field("c", text("é")), field("d", list(null(), boolean(true))))),
		field("e", octets(6, 7)))
}

// odd has fields that its kind has not, and kinds that are none.
func odd() api.Value {
	v := number(7)
	v.Bool, v.Text, v.Bytes = true, "\xff", []byte{9, 8}
	v.List = []api.Value{{Kind: 77, List: []api.Value{octets(1)}}, text("t")}
	v.Fields = []api.Field{field("", octets(2)), field("z", list(octets(3))), field("a", null())}
	return v
}

func TestNames(t *testing.T) {
	for _, s := range []string{"a", "_", "Z", "z", "A", "é1", "a0", "a9", "_id", "aZz", "é", "\u0080", "\ufffd", "a\ufffd", "\U0010ffff", "日本", strings.Repeat("a", 32), strings.Repeat("é", 32), strings.Repeat("\U0001f600", 32), "٣"} {
		if !value.Name(s) {
			t.Errorf("%q is a name", s)
		}
	}
	for _, s := range []string{"", "0", "1a", "9", "1é", "a b", " a", "a ", "a-b", "a.b", "a:", "a\x00", "a\x7f", "\xff", "a\xff", "é\xc3", "\xc3", "a\x80", "\xed\xa0\x80", "\xc0\x80", "\xf4\x90\x80\x80", "\xef\xbf", "a\xe2\x82", strings.Repeat("a", 33), strings.Repeat("é", 33), strings.Repeat("a", 32) + "\xff", strings.Repeat("a", 70000)} {
		if value.Name(s) {
			t.Errorf("%q is no name", s)
		}
	}
}

func TestNameByByte(t *testing.T) {
	const letters = "abcdefghijklmnopqrstuvwxyzABCDEFGHIJKLMNOPQRSTUVWXYZ_"
	for c := range 128 {
		sign := string(rune(c))
		first := strings.Contains(letters, sign)
		behind := first || strings.Contains("0123456789", sign)
		if value.Name(sign) != first || value.Name("a"+sign) != behind || value.Name("é"+sign+"b") != behind {
			t.Errorf("byte %x", c)
		}
	}
	for c := 128; c < 256; c++ {
		if sign := string([]byte{byte(c)}); value.Name(sign) || value.Name("a"+sign) {
			t.Errorf("byte %x is no rune", c)
		}
	}
}

func TestCheckTakes(t *testing.T) {
	empty := null()
	empty.Bytes, empty.List, empty.Fields = []byte{}, []api.Value{}, []api.Field{}
	long := make([]api.Value, 511)
	fields := make([]api.Field, 511)
	for i := range long {
		long[i] = number(int64(i))
		fields[i] = field("n"+string(rune(0x1000+i)), null())
	}
	for _, v := range []api.Value{
		empty, null(), boolean(true), boolean(false), number(0), number(math.MinInt64), number(math.MaxInt64),
		text(""), text("\ufffd"), text("\x00\x7f\"\\"), text(strings.Repeat("a", 1000)), text(strings.Repeat("é", 1000)), text(strings.Repeat("\U0010ffff", 1000)),
		octets(), octets(make([]byte, 4000)...), list(), doc(), rich(), nested(8, null()), nested(8, list()), nested(7, list(doc(), list())),
		list(long...), doc(fields...), doc(field("Z", null()), field("_", null()), field("a", null()), field("aa", null()), field("b", null()), field("z", null()), field("é", null())),
	} {
		if err := value.Check(v); err != api.OK {
			t.Errorf("%s: %v", shown(v), err)
		}
	}
}

func TestCheckForm(t *testing.T) {
	for _, k := range []api.Kind{0, 8, 9, 99, 255} {
		for _, v := range []api.Value{{Kind: k}, list(null(), api.Value{Kind: k}), doc(field("a", list(api.Value{Kind: k})))} {
			if err := value.Check(v); err != api.ErrValueForm {
				t.Errorf("kind %d: %v", k, err)
			}
		}
	}
	add := map[api.Kind]func(*api.Value){
		api.KindBool:  func(v *api.Value) { v.Bool = true },
		api.KindInt:   func(v *api.Value) { v.Int = 1 },
		api.KindText:  func(v *api.Value) { v.Text = "a" },
		api.KindBytes: func(v *api.Value) { v.Bytes = []byte{0} },
		api.KindList:  func(v *api.Value) { v.List = []api.Value{null()} },
		api.KindDoc:   func(v *api.Value) { v.Fields = []api.Field{field("a", null())} },
	}
	for kind := api.KindNull; kind <= api.KindDoc; kind++ {
		for has, put := range add {
			want := api.ErrValueForm
			if has == kind {
				want = api.OK
			}
			v := api.Value{Kind: kind}
			put(&v)
			if err := value.Check(v); err != want {
				t.Errorf("kind %d with a field of kind %d: %v", kind, has, err)
			}
			if own := add[kind]; own != nil {
				own(&v)
			}
			if err := value.Check(v); err != want {
				t.Errorf("kind %d with its own field and one of kind %d: %v", kind, has, err)
			}
		}
	}
}

func TestCheckNames(t *testing.T) {
	for _, names := range [][]string{{""}, {"1"}, {"a b"}, {"\xff"}, {strings.Repeat("a", 33)}, {"b", "a"}, {"a", "a"}, {"a", "Z"}, {"é", "z"}, {"a", "c", "b"}, {"aa", "a"}, {"a", ""}, {"a", "b", "b"}, {"a", "2"}} {
		var fields []api.Field
		for _, n := range names {
			fields = append(fields, field(n, null()))
		}
		for _, v := range []api.Value{doc(fields...), list(number(1), doc(fields...)), doc(field("a", doc(fields...)))} {
			if err := value.Check(v); err != api.ErrValueForm {
				t.Errorf("%q: %v", names, err)
			}
		}
	}
}

func TestCheckLimits(t *testing.T) {
	many := make([]api.Value, 512)
	for i := range many {
		many[i] = null()
	}
	fields := make([]api.Field, 512)
	stray := number(1)
	stray.List = many
	deepStray := number(1)
	deepStray.Fields = []api.Field{field("a", nested(8, null()))}
	for _, x := range []struct {
		v    api.Value
		want api.Errno
	}{
		{nested(9, null()), api.ErrValueDeep},
		{nested(9, list()), api.ErrValueDeep},
		{nested(5000, null()), api.ErrValueDeep},
		{list(null(), nested(8, null())), api.ErrValueDeep},
		{doc(field("a", null()), field("b", nested(8, null()))), api.ErrValueDeep},
		{deepStray, api.ErrValueDeep},
		{list(many...), api.ErrValueMany},
		{api.Value{Kind: api.KindDoc, Fields: fields}, api.ErrValueMany},
		{list(list(many[:256]...), list(many[:255]...)), api.ErrValueMany},
		{list(list(many[:255]...), list(many[:254]...)), api.OK},
		{stray, api.ErrValueMany},
		{text(strings.Repeat("a", 1001)), api.ErrValueLong},
		{text(strings.Repeat("é", 1001)), api.ErrValueLong},
		{text(strings.Repeat("\ufffd", 1001)), api.ErrValueLong},
		{octets(make([]byte, 4001)...), api.ErrValueLong},
		{list(octets(make([]byte, 4001)...)), api.ErrValueLong},
		{text("\xff"), api.ErrValueText},
		{text("a\xed\xa0\x80"), api.ErrValueText},
		{text("\xc0\x80"), api.ErrValueText},
		{text("é\xc3"), api.ErrValueText},
		{text("\xef\xbf"), api.ErrValueText},
		{text("\ufffd\xff"), api.ErrValueText},
		{doc(field("a", text("\x80"))), api.ErrValueText},
	} {
		if err := value.Check(x.v); err != x.want {
			t.Errorf("%.100s: %v, not %v", shown(x.v), err, x.want)
		}
		if s, err := value.Print(x.v); err != x.want || (x.want != api.OK && s != "") {
			t.Errorf("Print of %.100s: %q, %v", shown(x.v), s, err)
		}
	}
}

func TestCheckFirst(t *testing.T) {
	form, torn, long := api.Value{Kind: 9}, text("\xff"), text(strings.Repeat("a", 1001))
	tornAndLong := text(strings.Repeat("a", 1001) + "\xff")
	many := slices.Repeat([]api.Value{form}, 512)
	strayText := number(1)
	strayText.Text = "\xff"
	strayBytes := octets(make([]byte, 4001)...)
	strayBytes.Int = 1
	strayList := number(1)
	strayList.List = []api.Value{torn}
	for _, x := range []struct {
		v    api.Value
		want api.Errno
	}{
		{list(append(many, nested(8, null()))...), api.ErrValueDeep},
		{list(append(slices.Clone(many), null())...), api.ErrValueMany},
		{list(nested(8, form), form), api.ErrValueDeep},
		{list(form, torn, long), api.ErrValueForm},
		{list(torn, form, long), api.ErrValueText},
		{list(long, torn, form), api.ErrValueLong},
		{list(list(list(torn)), form), api.ErrValueText},
		{list(doc(field("a", long)), torn), api.ErrValueLong},
		{tornAndLong, api.ErrValueText},
		{strayText, api.ErrValueForm},
		{strayBytes, api.ErrValueForm},
		{strayList, api.ErrValueForm},
		{doc(field("b", torn), field("a", null())), api.ErrValueForm},
		{doc(field("1", torn)), api.ErrValueForm},
		{doc(field("a", torn), field("b", form)), api.ErrValueText},
		{list(list(null()), doc(field("a", long))), api.ErrValueLong},
		{api.Value{Kind: api.KindList, List: []api.Value{long}, Fields: []api.Field{field("a", torn)}}, api.ErrValueForm},
	} {
		if err := value.Check(x.v); err != x.want {
			t.Errorf("%.100s: %v, not %v", shown(x.v), err, x.want)
		}
	}
	// What a kind has not is gone through as well: first the list, then the fields.
	both := list(list(), list(null()))
	both.List[1].Kind = api.KindDoc
	both.List[1].List[0] = torn
	if err := value.Check(both); err != api.ErrValueForm {
		t.Errorf("a list in a document: %v", err)
	}
}

func rising() []api.Value {
	return []api.Value{
		{Kind: 0}, null(), boolean(false), boolean(true),
		number(math.MinInt64), number(-256), number(-1), number(0), number(1), number(255), number(256), number(math.MaxInt64),
		text(""), text("\x00"), text("B"), text("a"), text("a\x00"), text("aa"), text("b"), text("é"), text("\U00010000"),
		octets(), octets(0), octets(0, 0), octets(0, 255), octets(1), octets(127), octets(128), octets(255), octets(255, 0),
		list(), list(null()), list(null(), null()), list(number(1)), list(number(1), number(0)), list(number(1), number(0), number(0)), list(number(1), number(2)), list(number(2)), list(list()), list(list(null())), list(list(number(1)), null()), list(doc()),
		doc(), doc(field("", null())), doc(field("a", null())), doc(field("a", null()), field("b", null())), doc(field("a", number(1))), doc(field("a", number(2))), doc(field("a", number(2)), field("a", null())), doc(field("a", number(2)), field("b", null())), doc(field("a", list())), doc(field("aa", null())), doc(field("b", number(1))), doc(field("b", number(1)), field("a", null())), doc(field("é", null())),
		{Kind: 8}, {Kind: 255},
	}
}

func TestOrder(t *testing.T) {
	all := rising()
	for i, a := range all {
		for k, b := range all {
			want := min(1, max(-1, i-k))
			if got := value.Cmp(a, b); got != want {
				t.Errorf("%s with %s: %d", shown(a), shown(b), got)
			}
			if value.Same(a, b) != (i == k) {
				t.Errorf("same: %s, %s", shown(a), shown(b))
			}
			for _, w := range []struct{ a, b api.Value }{{list(a), list(b)}, {doc(field("x", a)), doc(field("x", b))}, {list(null(), a, null()), list(null(), b)}} {
				if got := value.Cmp(w.a, w.b); i != k && got != want {
					t.Errorf("%s with %s: %d", shown(w.a), shown(w.b), got)
				}
				if i != k && value.Same(w.a, w.b) {
					t.Errorf("same: %s, %s", shown(w.a), shown(w.b))
				}
			}
		}
	}
}

// Cmp asks only for what a value's kind has; Same asks for all.
func TestOrderOfWhatKindsHaveNot(t *testing.T) {
	change := []func(*api.Value){
		func(v *api.Value) { v.Bool = true },
		func(v *api.Value) { v.Int = 3 },
		func(v *api.Value) { v.Text = "t" },
		func(v *api.Value) { v.Bytes = []byte{1} },
		func(v *api.Value) { v.List = []api.Value{null()} },
		func(v *api.Value) { v.Fields = []api.Field{field("a", null())} },
	}
	for kind := range 12 {
		for at, c := range change {
			a := api.Value{Kind: api.Kind(kind)}
			b := a
			c(&b)
			want := 0
			if kind >= 2 && kind <= 7 && at == kind-2 {
				want = -1
			}
			if got, back := value.Cmp(a, b), value.Cmp(b, a); got != want || back != -want {
				t.Errorf("kind %d, change %d: %d, %d", kind, at, got, back)
			}
			if value.Same(a, b) || value.Same(b, a) || !value.Same(b, b) {
				t.Errorf("kind %d, change %d is the same", kind, at)
			}
			if value.Same(list(a), list(b)) || value.Same(doc(field("a", a)), doc(field("a", b))) {
				t.Errorf("kind %d, change %d is the same below", kind, at)
			}
		}
	}
}

func TestSameOfLists(t *testing.T) {
	a, b := null(), null()
	b.Bytes, b.List, b.Fields = []byte{}, []api.Value{}, []api.Field{}
	if !value.Same(a, b) || !value.Same(b, a) || value.Cmp(a, b) != 0 {
		t.Error("nil and empty lists are alike")
	}
	c, d := odd(), odd()
	if !value.Same(c, d) || !value.Same(rich(), rich()) {
		t.Error("the same")
	}
	d.Fields[2].Name = "b"
	if value.Same(c, d) {
		t.Error("another name")
	}
	d = odd()
	d.List[0].List[0].Bytes[0]++
	if value.Same(c, d) {
		t.Error("another byte below")
	}
	if value.Same(list(null()), list(null(), null())) || value.Same(octets(1), octets(1, 2)) || value.Same(doc(field("a", null())), doc()) {
		t.Error("of other lengths")
	}
}

func TestOneOrder(t *testing.T) {
	draw := rand.New(rand.NewSource(3))
	var pool []api.Value
	for range 150 {
		pool = append(pool, drawn(draw, 3, true))
	}
	slices.SortFunc(pool, value.Cmp)
	for i, a := range pool {
		for k, b := range pool {
			c := value.Cmp(a, b)
			if c != -value.Cmp(b, a) || (i < k && c > 0) || c < -1 || c > 1 {
				t.Fatalf("%s, %s: %d", shown(a), shown(b), c)
			}
			if value.Same(a, b) != same(a, b) {
				t.Fatalf("same: %s, %s", shown(a), shown(b))
			}
			if value.Check(a) == api.OK && value.Check(b) == api.OK && (c == 0) != same(a, b) {
				t.Fatalf("0 for others: %s, %s", shown(a), shown(b))
			}
		}
	}
}

// drawn is any value; wild: also one that Check refuses.
func drawn(draw *rand.Rand, depth int, wild bool) api.Value {
	v := api.Value{Kind: api.Kind(1 + draw.Intn(7))}
	if wild && draw.Intn(8) == 0 {
		v.Kind = api.Kind(draw.Intn(10))
	}
	has := func(k api.Kind) bool { return v.Kind == k || wild && draw.Intn(20) == 0 }
	if has(api.KindBool) {
		v.Bool = draw.Intn(2) == 0
	}
	if has(api.KindInt) {
		v.Int = int64(draw.Uint64()) >> draw.Intn(64)
	}
	if has(api.KindText) {
		v.Text = drawnText(draw)
	}
	if has(api.KindBytes) {
		v.Bytes = []byte(drawnText(draw))
	}
	if depth > 0 && has(api.KindList) {
		for range draw.Intn(4) {
			v.List = append(v.List, drawn(draw, depth-1, wild))
		}
	}
	if depth > 0 && has(api.KindDoc) {
		for _, n := range []string{"_", "a", "b", "é"} {
			if draw.Intn(2) == 0 {
				v.Fields = append(v.Fields, field(n, drawn(draw, depth-1, wild)))
			}
		}
	}
	return v
}

func drawnText(draw *rand.Rand) string {
	var out []rune
	for range draw.Intn(5) {
		out = append(out, []rune{0, 1, 9, 10, 13, 31, 32, '"', '\\', 'a', 'u', '{', '\'', 127, 128, 'é', 0xffff, 0x10000, 0x10ffff, utf8.RuneError}[draw.Intn(20)])
	}
	return string(out)
}

func TestClone(t *testing.T) {
	for _, make := range []func() api.Value{rich, odd, null, func() api.Value { return text("a") }} {
		v := make()
		c := value.Clone(v)
		if !same(c, make()) {
			t.Errorf("%s: %s", shown(v), shown(c))
		}
		spoil(&c)
		if !same(v, make()) {
			t.Errorf("a clone that was changed has changed %s", shown(v))
		}
		c = value.Clone(v)
		spoil(&v)
		if !same(c, make()) {
			t.Errorf("a clone has changed: %s", shown(c))
		}
	}
}

// What lies behind a list's length is somebody else's.
func TestRoomBehindLists(t *testing.T) {
	room := []api.Value{null(), octets(1), text("behind")}
	bytes := []byte{1, 2, 3, 4}
	fields := []api.Field{field("a", null()), field("b", null())}
	v := api.Value{Kind: api.KindDoc, Bytes: bytes[:2], List: room[:1], Fields: fields[:1]}
	for _, c := range []api.Value{value.Clone(v), first(v)} {
		if len(c.Bytes) != cap(c.Bytes) || len(c.List) != cap(c.List) || len(c.Fields) != cap(c.Fields) {
			t.Error("room behind a list")
		}
		spoil(&c)
	}
	if bytes[2] != 3 || room[1].Kind != api.KindBytes || fields[1].Name != "b" {
		t.Error("what lies behind a list was changed")
	}
	if !value.Same(v, value.Clone(v)) || value.Cmp(v, value.Clone(v)) != 0 {
		t.Error("what lies behind a list was read")
	}
}

func first(v api.Value) api.Value {
	for _, x := range value.All(v) {
		return x
	}
	return api.Value{}
}

func TestGet(t *testing.T) {
	twice := doc(field("b", number(1)), field("", number(2)), field("a", octets(3)), field("b", number(4)), field("\xff", number(5)))
	for _, x := range []struct {
		name string
		want api.Value
	}{{"b", number(1)}, {"", number(2)}, {"a", octets(3)}, {"\xff", number(5)}} {
		if got, ok := value.Get(twice, x.name); !ok || !same(got, x.want) {
			t.Errorf("%q: %s, %v", x.name, shown(got), ok)
		}
	}
	for _, name := range []string{"c", "B", "aa", "a ", "\xfe"} {
		if got, ok := value.Get(twice, name); ok || !same(got, api.Value{}) {
			t.Errorf("%q: %s, %v", name, shown(got), ok)
		}
	}
	for kind := range 12 {
		v := twice
		v.Kind = api.Kind(kind)
		got, ok := value.Get(v, "a")
		if is := v.Kind == api.KindDoc; ok != is || !is && !same(got, api.Value{}) {
			t.Errorf("kind %d: %s, %v", kind, shown(got), ok)
		}
	}
	if got, ok := value.Get(doc(), "a"); ok || !same(got, api.Value{}) {
		t.Error("no field")
	}
	v := rich()
	one, _ := value.Get(v, "a")
	two, _ := value.Get(v, "a")
	spoil(&one)
	if !same(v, rich()) || !same(two, rich().Fields[0].Value) {
		t.Error("what Get gave is somebody else's")
	}
}

func steps(v api.Value) string {
	out := ""
	for depth, x := range value.All(v) {
		out += string(rune('0'+depth)) + ":" + shown(x) + " "
	}
	return out
}

func wantSteps(depth int, v api.Value) string {
	out := string(rune('0'+depth)) + ":" + shown(v) + " "
	for _, x := range v.List {
		out += wantSteps(depth+1, x)
	}
	for _, f := range v.Fields {
		out += wantSteps(depth+1, f.Value)
	}
	return out
}

func TestAll(t *testing.T) {
	for _, v := range []api.Value{rich(), odd(), null(), {}, list(), nested(20, octets(1))} {
		if got, want := steps(v), wantSteps(1, v); got != want {
			t.Errorf("%s, not %s", got, want)
		}
		all := value.All(v)
		for range all {
			break
		}
		n, m := 0, 0
		for range all {
			n++
		}
		for range value.All(v) {
			m++
		}
		if n != m {
			t.Errorf("%d of %d a second time", n, m)
		}
	}
}

func TestAllEndsWhereItIsLeft(t *testing.T) {
	for _, v := range []api.Value{rich(), odd()} {
		count := 0
		for range value.All(v) {
			count++
		}
		for stop := 1; stop <= count; stop++ {
			n := 0
			value.All(v)(func(int, api.Value) bool {
				n++
				return n < stop
			})
			if n != stop {
				t.Errorf("left at %d, ended at %d", stop, n)
			}
		}
	}
}

func TestAllKeepsToItself(t *testing.T) {
	v := rich()
	all := value.All(v)
	for _, x := range all {
		spoil(&x)
	}
	if !same(v, rich()) {
		t.Error("what All handed out is v's own")
	}
	spoil(&v)
	var out []api.Value
	got := ""
	for depth, x := range all {
		got += string(rune('0'+depth)) + ":" + shown(x) + " "
		out = append(out, x)
	}
	if want := wantSteps(1, rich()); got != want {
		t.Errorf("%s, not %s", got, want)
	}
	spoil(&out[0])
	if !same(out[1], rich().Fields[0].Value) {
		t.Error("two that All handed out share memory")
	}
}

func TestDeepValues(t *testing.T) {
	const depth = 1 << 16
	a, b := nested(depth, null()), nested(depth, boolean(true))
	if value.Cmp(a, b) != -1 || value.Cmp(b, a) != 1 || value.Same(a, b) || !value.Same(a, value.Clone(a)) || value.Cmp(a, value.Clone(a)) != 0 {
		t.Error("deep values")
	}
	if value.Check(a) != api.ErrValueDeep {
		t.Error("a deep value passes")
	}
	if got, ok := value.Get(a, "a"); !ok || value.Cmp(got, nested(depth-1, null())) != 0 {
		t.Error("Get of a deep value")
	}
	deepest := 0
	for d := range value.All(nested(1000, null())) {
		deepest = d
	}
	if deepest != 1000 {
		t.Error(deepest)
	}
}

// What is handed in is not changed by any call.
func TestArgumentsStay(t *testing.T) {
	for _, make := range []func() api.Value{rich, odd} {
		v, w := make(), make()
		value.Check(v)
		value.Cmp(v, w)
		value.Same(v, w)
		value.Clone(v)
		value.Get(v, "a")
		value.Print(v)
		steps(v)
		if !same(v, make()) || !same(w, make()) {
			t.Error("an argument was changed")
		}
	}
}
