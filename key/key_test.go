package key_test

import (
	"bytes"
	"encoding/hex"
	"math"
	"math/rand"
	"slices"
	"strings"
	"testing"

	"codicil/api"
	"codicil/key"
	"codicil/value"
)

func null() api.Value            { return api.Value{Kind: api.KindNull} }
func boolean(b bool) api.Value   { return api.Value{Kind: api.KindBool, Bool: b} }
func number(n int64) api.Value   { return api.Value{Kind: api.KindInt, Int: n} }
func text(s string) api.Value    { return api.Value{Kind: api.KindText, Text: s} }
func octets(b ...byte) api.Value { return api.Value{Kind: api.KindBytes, Bytes: b} }
func list(l ...api.Value) api.Value {
	return api.Value{Kind: api.KindList, List: l}
}
func doc(f ...api.Field) api.Value {
	return api.Value{Kind: api.KindDoc, Fields: f}
}
func field(name string, v api.Value) api.Field { return api.Field{Name: name, Value: v} }
func tuple(l ...api.Value) []api.Value         { return l }

// hexed are the bytes that a text writes in hex digits; blanks between them mean nothing.
func hexed(s string) []byte {
	b, err := hex.DecodeString(strings.ReplaceAll(s, " ", ""))
	if err != nil {
		panic(err)
	}
	return b
}

func over(b []byte) []byte {
	out := make([]byte, len(b))
	for i := range b {
		out[i] = 255 - b[i]
	}
	return out
}

// inLists is v in lists, of that many values in one another in all.
func inLists(depth int, v api.Value) api.Value {
	for range depth - 1 {
		v = list(v)
	}
	return v
}

// bytesOf are the bytes of a value that may be keyed, as the chapter says them: what the tests hold the package against.
func bytesOf(v api.Value) []byte {
	ended := func(mark string, s string) []byte {
		return []byte(mark + strings.ReplaceAll(s, "\x00", "\x00\xff") + "\x00\x01")
	}
	switch v.Kind {
	case api.KindBool:
		if v.Bool {
			return []byte{0x21}
		}
		return []byte{0x20}
	case api.KindInt:
		out := []byte{0x30}
		n := uint64(v.Int) + 1<<63
		for at := range 8 {
			out = append(out, byte(n>>(56-8*at)))
		}
		return out
	case api.KindText:
		return ended("\x40", v.Text)
	case api.KindBytes:
		return ended("\x50", string(v.Bytes))
	case api.KindList:
		out := []byte{0x60}
		for _, x := range v.List {
			out = append(out, bytesOf(x)...)
		}
		return append(out, 0x01)
	}
	return []byte{0x10}
}

// oneOf is what One is to answer of a value that may be keyed, whatever its length.
func oneOf(v api.Value, down bool) []byte {
	if down {
		return over(bytesOf(v))
	}
	return bytesOf(v)
}

func tupleBytes(l []api.Value, down []bool) []byte {
	var out []byte
	for at, v := range l {
		out = append(out, oneOf(v, at < len(down) && down[at])...)
	}
	return out
}

func sameTuples(a, b []api.Value) bool { return slices.EqualFunc(a, b, value.Same) }

var bothWays = []bool{false, true}

func TestExamples(t *testing.T) {
	for _, x := range []struct {
		v    api.Value
		down bool
		want string
	}{
		{number(1), false, "30 80 00 00 00 00 00 00 01"},
		{number(-1), false, "30 7f ff ff ff ff ff ff ff"},
		{text("a"), false, "40 61 00 01"},
		{text("a"), true, "bf 9e ff fe"},
		{octets(0), false, "50 00 ff 00 01"},
		{list(null(), boolean(true)), false, "60 10 21 01"},
	} {
		if b, err := key.One(x.v, x.down); err != api.OK || !bytes.Equal(b, hexed(x.want)) {
			t.Errorf("%v: %x, %v", x.v, b, err)
		}
	}
	l, down := tuple(text("a"), number(1)), []bool{false, true}
	b, err := key.Encode(l, down)
	if err != api.OK || !bytes.Equal(b, hexed("40 61 00 01 cf 7f ff ff ff ff ff ff fe")) {
		t.Errorf("a, 1: %x, %v", b, err)
	}
	if back, err, at := key.Decode(b, down); err != api.OK || at != 0 || !sameTuples(back, l) {
		t.Errorf("back: %v, %v, %d", back, err, at)
	}
	if l, err, at := key.Decode(hexed("40 61"), nil); len(l) != 0 || err != api.ErrKeyForm || at != 0 {
		t.Errorf("40 61: %v, %v, %d", l, err, at)
	}
	if l, err, at := key.Decode(hexed("10 11"), nil); len(l) != 0 || err != api.ErrKeyForm || at != 1 {
		t.Errorf("10 11: %v, %v, %d", l, err, at)
	}
	if b, ok := key.After(hexed("01 ff")); !ok || !bytes.Equal(b, hexed("02")) {
		t.Errorf("after 01 ff: %x, %v", b, ok)
	}
	if b, ok := key.After(hexed("ff")); ok || len(b) != 0 {
		t.Errorf("after ff: %x, %v", b, ok)
	}
	if b, err := key.One(doc(), false); err != api.ErrKeyKind || len(b) != 0 {
		t.Errorf("{}: %x, %v", b, err)
	}
	if c := key.Cmp(tuple(number(1), number(2)), tuple(number(1), number(3)), down); c != 1 {
		t.Errorf("(1, 2) and (1, 3): %d", c)
	}
}

func TestErrorNumbers(t *testing.T) {
	for want, err := range map[int]api.Errno{1: api.ErrArg, 40: api.ErrKeyForm, 41: api.ErrKeyKind, 42: api.ErrKeyLong} {
		if int(err) != want {
			t.Errorf("%d, not %d", err, want)
		}
	}
}

func TestOneOfEveryKind(t *testing.T) {
	empty := list()
	empty.List, empty.Bytes, empty.Fields = []api.Value{}, []byte{}, []api.Field{}
	for _, x := range []struct {
		v    api.Value
		want string
	}{
		{null(), "10"},
		{boolean(false), "20"},
		{boolean(true), "21"},
		{number(0), "30 80 00 00 00 00 00 00 00"},
		{number(256), "30 80 00 00 00 00 00 01 00"},
		{number(-256), "30 7f ff ff ff ff ff ff 00"},
		{number(0x0102030405060708), "30 81 02 03 04 05 06 07 08"},
		{number(math.MinInt64), "30 00 00 00 00 00 00 00 00"},
		{number(math.MinInt64 + 1), "30 00 00 00 00 00 00 00 01"},
		{number(math.MaxInt64), "30 ff ff ff ff ff ff ff ff"},
		{text(""), "40 00 01"},
		{text("\x00"), "40 00 ff 00 01"},
		{text("\x01"), "40 01 00 01"},
		{text("\x00\x00"), "40 00 ff 00 ff 00 01"},
		{text("\x00\x01"), "40 00 ff 01 00 01"},
		{text("\x01\x00"), "40 01 00 ff 00 01"},
		{text("a\x00b"), "40 61 00 ff 62 00 01"},
		{text("\u00fe\u00ff"), "40 c3 be c3 bf 00 01"},
		{text("\U0010ffff\x7f"), "40 f4 8f bf bf 7f 00 01"},
		{octets(), "50 00 01"},
		{octets(1), "50 01 00 01"},
		{octets(0, 0), "50 00 ff 00 ff 00 01"},
		{octets(0, 1), "50 00 ff 01 00 01"},
		{octets(0, 255), "50 00 ff ff 00 01"},
		{octets(255, 0), "50 ff 00 ff 00 01"},
		{octets(254, 255, 1, 254), "50 fe ff 01 fe 00 01"},
		{octets('a'), "50 61 00 01"},
		{list(), "60 01"},
		{empty, "60 01"},
		{list(list()), "60 60 01 01"},
		{list(list(), list()), "60 60 01 60 01 01"},
		{list(list(list(null()), boolean(false)), text("")), "60 60 60 10 01 20 01 40 00 01 01"},
		{list(text("\x00"), octets(1), number(-1)), "60 40 00 ff 00 01 50 01 00 01 30 7f ff ff ff ff ff ff ff 01"},
		{inLists(8, null()), "60 60 60 60 60 60 60 10 01 01 01 01 01 01 01"},
		{inLists(8, list()), "60 60 60 60 60 60 60 60 01 01 01 01 01 01 01 01"},
	} {
		want := hexed(x.want)
		if b, err := key.One(x.v, false); err != api.OK || !bytes.Equal(b, want) {
			t.Errorf("%s: %x, %v", x.want, b, err)
		}
		if b, err := key.One(x.v, true); err != api.OK || !bytes.Equal(b, over(want)) {
			t.Errorf("%s, falling: %x, %v", x.want, b, err)
		}
	}
}

func TestOneOfEachByte(t *testing.T) {
	for c := range 256 {
		for _, down := range bothWays {
			v := octets(byte(c), byte(255-c), byte(c))
			if b, err := key.One(v, down); err != api.OK || !bytes.Equal(b, oneOf(v, down)) {
				t.Errorf("byte %x: %x, %v", c, b, err)
			}
			v = text(string(rune(c)) + "a")
			if b, err := key.One(v, down); err != api.OK || !bytes.Equal(b, oneOf(v, down)) {
				t.Errorf("rune %x: %x, %v", c, b, err)
			}
		}
	}
}

// refused are values with what One is to tell of them: several errors in one, too.
func refused() map[string]struct {
	v    api.Value
	want api.Errno
} {
	type row = struct {
		v    api.Value
		want api.Errno
	}
	a := text(strings.Repeat("a", 200))
	torn := text("\xff")
	stray := number(1)
	stray.Text = "a"
	strayDoc := number(1)
	strayDoc.Fields = []api.Field{field("a", null())}
	many := slices.Repeat([]api.Value{null()}, 512)
	return map[string]row{
		"kind 0":              {api.Value{}, api.ErrKeyForm},
		"kind 8":              {api.Value{Kind: 8}, api.ErrKeyForm},
		"kind 255 below":      {list(null(), api.Value{Kind: 255}), api.ErrKeyForm},
		"a field too many":    {stray, api.ErrKeyForm},
		"fields of a number":  {strayDoc, api.ErrKeyForm},
		"no UTF-8":            {torn, api.ErrKeyForm},
		"no UTF-8 below":      {list(list(torn)), api.ErrKeyForm},
		"1001 runes":          {text(strings.Repeat("a", 1001)), api.ErrKeyForm},
		"4001 bytes":          {octets(make([]byte, 4001)...), api.ErrKeyForm},
		"nine deep":           {inLists(9, null()), api.ErrKeyForm},
		"5000 deep":           {inLists(5000, null()), api.ErrKeyForm},
		"513 parts":           {list(many...), api.ErrKeyForm},
		"512 parts":           {list(many[:511]...), api.ErrKeyLong},
		"1000 runes":          {text(strings.Repeat("\U0010ffff", 1000)), api.ErrKeyLong},
		"4000 bytes":          {octets(make([]byte, 4000)...), api.ErrKeyLong},
		"names that fall":     {doc(field("b", null()), field("a", null())), api.ErrKeyForm},
		"no name":             {list(doc(field("", null()))), api.ErrKeyForm},
		"empty document":      {doc(), api.ErrKeyKind},
		"document":            {doc(field("a", number(1))), api.ErrKeyKind},
		"document in a list":  {list(null(), doc()), api.ErrKeyKind},
		"list in a document":  {doc(field("a", list())), api.ErrKeyKind},
		"document eight deep": {inLists(8, doc()), api.ErrKeyKind},
		"document nine deep":  {inLists(9, doc()), api.ErrKeyForm},
		"document at the end": {list(list(number(1)), list(list(doc(field("a", null()))))), api.ErrKeyKind},
		"form, behind a doc":  {list(doc(), torn), api.ErrKeyForm},
		"form, in a doc":      {doc(field("a", torn)), api.ErrKeyForm},
		"doc, behind long":    {list(a, doc()), api.ErrKeyKind},
		"long in a doc":       {doc(field("a", a)), api.ErrKeyKind},
		"form, behind long":   {list(a, torn), api.ErrKeyForm},
		"all three":           {list(a, doc(), torn), api.ErrKeyForm},
	}
}

func TestOneRefuses(t *testing.T) {
	for name, x := range refused() {
		for _, down := range bothWays {
			if b, err := key.One(x.v, down); err != x.want || len(b) != 0 {
				t.Errorf("%s: %x, %v, not %v", name, b, err, x.want)
			}
			if b, err := key.Encode(tuple(null(), x.v), []bool{!down, down}); err != x.want || len(b) != 0 {
				t.Errorf("%s in a tuple: %x, %v, not %v", name, b, err, x.want)
			}
		}
	}
}

// atLength are values whose bytes are that many, from 40 on.
func atLength(n int) []api.Value {
	return []api.Value{
		text(strings.Repeat("a", n-3)),
		text("\x00" + strings.Repeat("a", n-5)),
		octets(bytes.Repeat([]byte{255}, n-3)...),
		list(slices.Repeat([]api.Value{null()}, n-2)...),
		list(number(5), text(strings.Repeat("a", n-15)), boolean(true)),
	}
}

func TestOneLengths(t *testing.T) {
	for n := 150; n <= 170; n++ {
		for at, v := range atLength(n) {
			for _, down := range bothWays {
				b, err := key.One(v, down)
				if n <= 160 && (err != api.OK || len(b) != n || !bytes.Equal(b, oneOf(v, down))) {
					t.Errorf("%d bytes, value %d: %x, %v", n, at, b, err)
				}
				if n > 160 && (err != api.ErrKeyLong || len(b) != 0) {
					t.Errorf("%d bytes, value %d: %x, %v", n, at, b, err)
				}
			}
		}
	}
}

func TestEncode(t *testing.T) {
	values := tuple(text("a\x00"), number(-7), list(octets(0), null()), boolean(true), octets(255))
	for n := range 6 {
		for _, down := range [][]bool{nil, {}, {true}, {false, true}, {true, false, true}, {true, true, true, true}, {false, false, false, true, true, true, true}} {
			b, err := key.Encode(values[:n], down)
			if n > 4 && (err != api.ErrArg || len(b) != 0) {
				t.Errorf("%d values: %x, %v", n, b, err)
			}
			if n <= 4 && (err != api.OK || !bytes.Equal(b, tupleBytes(values[:n], down))) {
				t.Errorf("%d values, down %v: %x, %v", n, down, b, err)
			}
		}
	}
	// What down says more is not looked at.
	for n := range 5 {
		b, err := key.Encode(values[:n], append(make([]bool, n), true, true, true, true, true))
		if err != api.OK || !bytes.Equal(b, tupleBytes(values[:n], nil)) {
			t.Errorf("%d values: %x, %v", n, b, err)
		}
	}
	if b, err := key.Encode(slices.Repeat(values, 1000), nil); err != api.ErrArg || len(b) != 0 {
		t.Errorf("5000 values: %x, %v", b, err)
	}
}

func TestEncodeLengths(t *testing.T) {
	for n := 150; n <= 170; n++ {
		for _, l := range [][]api.Value{
			{atLength(n)[0]},
			{atLength(n - 50)[0], atLength(50)[2]},
			{atLength(40)[3], number(1), atLength(n - 59)[4], text("abcdefg")},
			{atLength(n - 1)[1], null()},
		} {
			down := []bool{false, true, true}
			if want := tupleBytes(l, down); len(want) != n {
				t.Fatalf("%d, not %d", len(want), n)
			}
			b, err := key.Encode(l, down)
			if n <= 160 && (err != api.OK || !bytes.Equal(b, tupleBytes(l, down))) {
				t.Errorf("%d bytes: %x, %v", n, b, err)
			}
			if n > 160 && (err != api.ErrKeyLong || len(b) != 0) {
				t.Errorf("%d bytes: %x, %v", n, b, err)
			}
		}
	}
}

func TestEncodeFirst(t *testing.T) {
	form, kind, long, half := text("\xff"), doc(), atLength(161)[0], atLength(100)[0]
	for at, x := range []struct {
		l    []api.Value
		want api.Errno
	}{
		{tuple(form, form, form, form, form), api.ErrArg},
		{tuple(kind, long, half, half, null()), api.ErrArg},
		{tuple(kind, form), api.ErrKeyKind},
		{tuple(form, kind), api.ErrKeyForm},
		{tuple(long, form), api.ErrKeyLong},
		{tuple(long, kind), api.ErrKeyLong},
		{tuple(kind, long), api.ErrKeyKind},
		{tuple(null(), form, long), api.ErrKeyForm},
		{tuple(half, half, form), api.ErrKeyForm},
		{tuple(half, half, null(), kind), api.ErrKeyKind},
		{tuple(half, half, long), api.ErrKeyLong},
		{tuple(half, half), api.ErrKeyLong},
		{tuple(half, atLength(60)[0], null(), null()), api.ErrKeyLong},
		{tuple(half, atLength(58)[0], null(), null()), api.OK},
	} {
		b, err := key.Encode(x.l, nil)
		if err != x.want || err != api.OK && len(b) != 0 {
			t.Errorf("tuple %d: %x, %v, not %v", at, b, err, x.want)
		}
	}
}

func TestAfter(t *testing.T) {
	for _, x := range []struct {
		b, want string
		ok      bool
	}{
		{"", "", false},
		{"ff", "", false},
		{"ff ff ff", "", false},
		{"00", "01", true},
		{"fe", "ff", true},
		{"7f", "80", true},
		{"01 ff", "02", true},
		{"00 ff ff ff", "01", true},
		{"fe ff", "ff", true},
		{"ff fe ff ff", "ff ff", true},
		{"ff 00", "ff 01", true},
		{"01 02", "01 03", true},
		{"01 ff 02", "01 ff 03", true},
		{"40 61 00 01", "40 61 00 02", true},
		{"02 00 00 00 ff", "02 00 00 01", true},
	} {
		if b, ok := key.After(hexed(x.b)); ok != x.ok || !bytes.Equal(b, hexed(x.want)) {
			t.Errorf("%s: %x, %v", x.b, b, ok)
		}
	}
	if b, ok := key.After(nil); ok || len(b) != 0 {
		t.Errorf("nothing: %x, %v", b, ok)
	}
	long := append([]byte{3}, bytes.Repeat([]byte{255}, 1<<20)...)
	if b, ok := key.After(long); !ok || !bytes.Equal(b, []byte{4}) {
		t.Error("many ff")
	}
	if b, ok := key.After(long[1:]); ok || len(b) != 0 {
		t.Error("many ff alone")
	}
}

// What After answers is above all that begin with b, and of what is below it, and not below b, all begins with b.
func TestAfterIsTheLeast(t *testing.T) {
	var all [][]byte
	for _, a := range []int{-1, 0, 1, 254, 255} {
		for _, b := range []int{-1, 0, 1, 254, 255} {
			for _, c := range []int{-1, 0, 1, 254, 255} {
				var one []byte
				for _, n := range []int{a, b, c} {
					if n >= 0 {
						one = append(one, byte(n))
					}
				}
				all = append(all, one)
			}
		}
	}
	for _, b := range all {
		after, ok := key.After(b)
		for _, x := range all {
			within := bytes.Compare(x, b) >= 0 && (!ok || bytes.Compare(x, after) < 0)
			if within != bytes.HasPrefix(x, b) {
				t.Fatalf("%x, after %x, %v: %x", b, after, ok, x)
			}
		}
	}
}

// rising are values in their order, also such that value.Check refuses.
func rising() []api.Value {
	return tuple(
		api.Value{}, null(), boolean(false), boolean(true),
		number(math.MinInt64), number(-256), number(-1), number(0), number(1), number(255), number(256), number(math.MaxInt64),
		text(""), text("\x00"), text("\x00\x00"), text("\x01"), text("B"), text("a"), text("a\x00"), text("a\x01"), text("aa"), text("b"), text("é"), text("\U00010000"), text("\xff"), text("\xff\xff"),
		octets(), octets(0), octets(0, 0), octets(0, 1), octets(0, 255), octets(1), octets(127), octets(254), octets(255), octets(255, 0), octets(255, 255),
		list(), list(null()), list(null(), null()), list(number(1)), list(number(1), number(0)), list(number(1), number(2)), list(number(2)), list(text("a")), list(text("a\x00")), list(text("a\x00"), null()), list(list()), list(list(), null()), list(list(null())), list(list(list())), list(doc()),
		doc(), doc(field("", null())), doc(field("a", null())), doc(field("a", number(1))), doc(field("a", number(1)), field("a", null())), doc(field("b", null())), doc(field("b", null()), field("a", null())),
		api.Value{Kind: 8}, api.Value{Kind: 255},
	)
}

func TestCmp(t *testing.T) {
	all := rising()
	for i, a := range all {
		for k, b := range all {
			want := min(1, max(-1, i-k))
			for _, x := range []struct {
				a, b []api.Value
				down []bool
				want int
			}{
				{tuple(a), tuple(b), nil, want},
				{tuple(a), tuple(b), []bool{false, true}, want},
				{tuple(a), tuple(b), []bool{true}, -want},
				{tuple(a), tuple(b), []bool{true, false, false}, -want},
				{tuple(null(), a), tuple(null(), b), []bool{true}, want},
				{tuple(null(), a), tuple(null(), b), []bool{false, true}, -want},
				{tuple(a, a), tuple(a, b), []bool{true, false}, want},
				{tuple(a, b), tuple(a, a), []bool{false, true, true}, want},
				{tuple(a, a, a, a, a, a), tuple(a, a, a, a, a, b), nil, want},
				{tuple(a, a, a, a, a, a), tuple(a, a, a, a, a, b), []bool{false, false, false, false, false, true}, -want},
			} {
				if got := key.Cmp(x.a, x.b, x.down); got != x.want {
					t.Errorf("%v, %v, down %v: %d", x.a, x.b, x.down, got)
				}
			}
			if i != k && (key.Cmp(tuple(a, b, b), tuple(b), nil) != want || key.Cmp(tuple(a), tuple(b, a), []bool{true, true}) != -want) {
				t.Errorf("%v, %v of other lengths", a, b)
			}
		}
	}
}

func TestCmpOfBeginnings(t *testing.T) {
	all := rising()
	for n := range len(all) {
		for m := range len(all) {
			for _, down := range [][]bool{nil, {true}, slices.Repeat([]bool{true}, len(all)+3)} {
				if got := key.Cmp(all[:n], all[:m], down); got != min(1, max(-1, n-m)) {
					t.Errorf("%d and %d values, down %v: %d", n, m, down, got)
				}
			}
		}
	}
	if key.Cmp(nil, []api.Value{}, nil) != 0 || key.Cmp([]api.Value{}, nil, []bool{true}) != 0 {
		t.Error("no values")
	}
}

// Cmp asks only for what a value's kind has.
func TestCmpOfWhatKindsHaveNot(t *testing.T) {
	a, b := number(1), number(1)
	b.Bool, b.Text, b.Bytes, b.List, b.Fields = true, "t", []byte{1}, tuple(null()), []api.Field{field("a", null())}
	if key.Cmp(tuple(a), tuple(b), nil) != 0 || key.Cmp(tuple(b, null()), tuple(a), []bool{true}) != 1 {
		t.Error("what a number has not was looked at")
	}
}

func TestCmpOfDeepValues(t *testing.T) {
	a, b := inLists(1<<16, null()), inLists(1<<16, boolean(true))
	if key.Cmp(tuple(a), tuple(b), nil) != -1 || key.Cmp(tuple(a), tuple(b), []bool{true}) != 1 || key.Cmp(tuple(b), tuple(b), nil) != 0 {
		t.Error("deep values")
	}
	if b, err := key.One(a, false); err != api.ErrKeyForm || len(b) != 0 {
		t.Errorf("%x, %v", b, err)
	}
}

// drawn is any value that may be keyed, of few forms, so that many begin alike.
func drawn(draw *rand.Rand, depth int) api.Value {
	kinds := 6
	if depth == 0 {
		kinds = 5
	}
	switch 1 + draw.Intn(kinds) {
	case 1:
		return null()
	case 2:
		return boolean(draw.Intn(2) == 0)
	case 3:
		if draw.Intn(2) == 0 {
			return number(int64(draw.Intn(3) - 1))
		}
		return number(int64(draw.Uint64()) >> draw.Intn(64))
	case 4:
		var s []rune
		for range draw.Intn(4) {
			s = append(s, []rune{0, 1, 'a', 0x10, 0xfe, 0xff, 0x10ffff}[draw.Intn(7)])
		}
		return text(string(s))
	case 5:
		var b []byte
		for range draw.Intn(4) {
			b = append(b, []byte{0, 1, 0x10, 0x60, 0xfe, 0xff}[draw.Intn(6)])
		}
		return octets(b...)
	}
	var l []api.Value
	for range draw.Intn(4) {
		l = append(l, drawn(draw, depth-1))
	}
	return list(l...)
}

func drawnTuples(seed int64, n, depth int) [][]api.Value {
	draw := rand.New(rand.NewSource(seed))
	all := [][]api.Value{nil}
	for len(all) < n {
		// Half of them go on where another one ends, so that one is often the beginning of another one.
		var l []api.Value
		if draw.Intn(2) == 0 {
			l = slices.Clone(all[draw.Intn(len(all))])
		}
		for range draw.Intn(3) {
			l = append(l, drawn(draw, depth))
		}
		if len(l) <= api.MaxTuple && len(tupleBytes(l, nil)) <= api.MaxKey {
			all = append(all, l)
		}
	}
	return all
}

func TestBytesCompareAsTuples(t *testing.T) {
	for _, down := range [][]bool{nil, {true}, {false, true}, {true, false, true}, {true, true, true, true}} {
		all := drawnTuples(4, 500, 2)
		var coded [][]byte
		for _, l := range all {
			b, err := key.Encode(l, down)
			if err != api.OK || !bytes.Equal(b, tupleBytes(l, down)) {
				t.Fatalf("%v, down %v: %x, %v", l, down, b, err)
			}
			coded = append(coded, b)
		}
		for i, a := range all {
			for k, b := range all {
				if bytes.Compare(coded[i], coded[k]) != key.Cmp(a, b, down) {
					t.Fatalf("%v, %v, down %v", a, b, down)
				}
				begins := len(a) <= len(b) && sameTuples(a, b[:len(a)])
				if bytes.HasPrefix(coded[k], coded[i]) != begins {
					t.Fatalf("the beginning: %v, %v, down %v", a, b, down)
				}
			}
		}
	}
}

func TestBytesOfOneValueCompare(t *testing.T) {
	var all []api.Value
	for _, v := range rising() {
		if _, err := key.One(v, false); err == api.OK {
			all = append(all, v)
		}
	}
	if len(all) < 40 {
		t.Fatalf("%d values", len(all))
	}
	for i, a := range all {
		for k, b := range all {
			want := min(1, max(-1, i-k))
			for _, down := range bothWays {
				x, _ := key.One(a, down)
				y, _ := key.One(b, down)
				if got := bytes.Compare(x, y); down && got != -want || !down && got != want {
					t.Errorf("%v, %v, falling %v: %d", a, b, down, got)
				}
				if i != k && bytes.HasPrefix(x, y) {
					t.Errorf("%v begins with %v, falling %v", a, b, down)
				}
			}
		}
	}
}
