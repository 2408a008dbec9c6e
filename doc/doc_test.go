package doc_test

import (
	"bytes"
	"encoding/hex"
	"fmt"
	"math"
	"math/rand"
	"slices"
	"strings"
	"testing"

	"codicil/api"
	"codicil/doc"
	"codicil/value"
)

func null() api.Value            { return api.Value{Kind: api.KindNull} }
func boolean(b bool) api.Value   { return api.Value{Kind: api.KindBool, Bool: b} }
func number(n int64) api.Value   { return api.Value{Kind: api.KindInt, Int: n} }
func text(s string) api.Value    { return api.Value{Kind: api.KindText, Text: s} }
func octets(b ...byte) api.Value { return api.Value{Kind: api.KindBytes, Bytes: b} }
func list(l ...api.Value) api.Value {
	return api.Value{Kind: api.KindList, List: l}
}
func document(f ...api.Field) api.Value {
	return api.Value{Kind: api.KindDoc, Fields: f}
}
func field(name string, v api.Value) api.Field { return api.Field{Name: name, Value: v} }

// hexed are the bytes that a text writes in hex digits; blanks between them mean nothing.
func hexed(s string) []byte {
	b, err := hex.DecodeString(strings.ReplaceAll(s, " ", ""))
	if err != nil {
		panic(err)
	}
	return b
}

// shown is the beginning of a thing's text: some are great.
func shown(thing any) string {
	s := fmt.Sprint(thing)
	return s[:min(len(s), 200)]
}

// inLists is v in lists, of that many values in one another in all.
func inLists(depth int, v api.Value) api.Value {
	for range depth - 1 {
		v = list(v)
	}
	return v
}

func inDocuments(depth int, v api.Value) api.Value {
	for range depth - 1 {
		v = document(field("a", v))
	}
	return v
}

// varint is layer 2's rule, by dividing: it shares nothing with the program.
func varint(n uint64) []byte {
	var out []byte
	for n >= 128 {
		out = append(out, byte(n%128)+128)
		n /= 128
	}
	return append(out, byte(n))
}

func counted(s string) []byte { return append(varint(uint64(len(s))), s...) }

// bytesOf are the bytes of a value as the chapter says them, whatever value.Check says of it: what the tests hold the package against.
func bytesOf(v api.Value) []byte {
	switch v.Kind {
	case api.KindBool:
		if v.Bool {
			return []byte{3}
		}
		return []byte{2}
	case api.KindInt:
		n := 2 * uint64(v.Int)
		if v.Int < 0 {
			n = -n - 1
		}
		return append([]byte{4}, varint(n)...)
	case api.KindText:
		return append([]byte{5}, counted(v.Text)...)
	case api.KindBytes:
		return append([]byte{6}, counted(string(v.Bytes))...)
	case api.KindList:
		out := append([]byte{7}, varint(uint64(len(v.List)))...)
		for _, x := range v.List {
			out = append(out, bytesOf(x)...)
		}
		return out
	case api.KindDoc:
		out := append([]byte{8}, varint(uint64(len(v.Fields)))...)
		for _, f := range v.Fields {
			out = append(append(out, counted(f.Name)...), bytesOf(f.Value)...)
		}
		return out
	}
	return []byte{1}
}

// holds looks whether v is written as those bytes, and they are read as v.
func holds(t *testing.T, v api.Value, want []byte) {
	t.Helper()
	if b, err := doc.Encode(v); err != api.OK || !bytes.Equal(b, want) {
		t.Errorf("%s: %.80x, %v, not %.80x", shown(v), b, err, want)
	}
	if n := doc.Size(v); n != len(want) {
		t.Errorf("%s: size %d, not %d", shown(v), n, len(want))
	}
	decodes(t, want, v)
}

// refuses looks whether v is not written, with that error, and has that size.
func refuses(t *testing.T, name string, v api.Value, want api.Errno, size int) {
	t.Helper()
	if b, err := doc.Encode(v); err != want || len(b) != 0 {
		t.Errorf("%s: %.80x, %v, not %v", name, b, err, want)
	}
	if n := doc.Size(v); n != size {
		t.Errorf("%s: size %d, not %d", name, n, size)
	}
}

func TestFirstExample(t *testing.T) {
	holds(t, document(field("a", number(1)), field("b", text("x"))), hexed("08 02 01 61 04 02 01 62 05 01 78"))
	holds(t, null(), hexed("01"))
	holds(t, list(boolean(true), number(-1)), hexed("07 02 03 04 01"))
}

func TestSecondExample(t *testing.T) {
	for _, s := range []string{"02 02", "08 02 01 62 01 01 61 01", "04 80 00"} {
		decodesNot(t, hexed(s))
	}
}

func TestErrorNumbers(t *testing.T) {
	for want, err := range map[int]api.Errno{
		30: api.ErrValueForm, 31: api.ErrValueDeep, 32: api.ErrValueMany, 33: api.ErrValueLong, 34: api.ErrValueText,
		50: api.ErrDocForm, 51: api.ErrDocLong,
	} {
		if int(err) != want {
			t.Errorf("%d, not %d", err, want)
		}
	}
}

func TestEveryKind(t *testing.T) {
	empty := func(kind api.Kind) api.Value {
		return api.Value{Kind: kind, Bytes: []byte{}, List: []api.Value{}, Fields: []api.Field{}}
	}
	for _, x := range []struct {
		v    api.Value
		want string
	}{
		{null(), "01"},
		{empty(api.KindNull), "01"},
		{boolean(false), "02"},
		{boolean(true), "03"},
		{number(0), "04 00"},
		{number(-1), "04 01"},
		{number(1), "04 02"},
		{number(63), "04 7e"},
		{number(-64), "04 7f"},
		{number(64), "04 80 01"},
		{number(-65), "04 81 01"},
		{number(150), "04 ac 02"},
		{number(8191), "04 fe 7f"},
		{number(8192), "04 80 80 01"},
		{number(math.MaxInt64), "04 fe ff ff ff ff ff ff ff ff 01"},
		{number(math.MinInt64), "04 ff ff ff ff ff ff ff ff ff 01"},
		{number(math.MinInt64 + 1), "04 fd ff ff ff ff ff ff ff ff 01"},
		{text(""), "05 00"},
		{empty(api.KindText), "05 00"},
		{text("a"), "05 01 61"},
		{text("\x00"), "05 01 00"},
		{text("é"), "05 02 c3 a9"},
		{text("\U0010ffff\ufffd\x7f"), "05 08 f4 8f bf bf ef bf bd 7f"},
		{octets(), "06 00"},
		{empty(api.KindBytes), "06 00"},
		{octets(0), "06 01 00"},
		{octets(255), "06 01 ff"},
		{octets('a', 0, 0xc3), "06 03 61 00 c3"},
		{list(), "07 00"},
		{empty(api.KindList), "07 00"},
		{list(null()), "07 01 01"},
		{list(list()), "07 01 07 00"},
		{list(list(), list(list(null()), boolean(false)), text("")), "07 03 07 00 07 02 07 01 01 02 05 00"},
		{list(document(), octets(7)), "07 02 08 00 06 01 07"},
		{document(), "08 00"},
		{empty(api.KindDoc), "08 00"},
		{document(field("a", null())), "08 01 01 61 01"},
		{document(field("a", document())), "08 01 01 61 08 00"},
		{document(field("A", list()), field("_id", number(-1)), field("é1", boolean(true))), "08 03 01 41 07 00 03 5f 69 64 04 01 03 c3 a9 31 03"},
		{document(field("a", list(document(field("a", text("a"))), null())), field("aa", octets(1))), "08 02 01 61 07 02 08 01 01 61 05 01 61 01 02 61 61 06 01 01"},
		{inLists(8, null()), "07 01 07 01 07 01 07 01 07 01 07 01 07 01 01"},
		{inLists(8, list()), "07 01 07 01 07 01 07 01 07 01 07 01 07 01 07 00"},
		{inDocuments(8, document()), "080101 61 080101 61 080101 61 080101 61 080101 61 080101 61 080101 61 08 00"},
	} {
		holds(t, x.v, hexed(x.want))
	}
}

func TestNumbers(t *testing.T) {
	for _, n := range someNumbers() {
		holds(t, number(n), bytesOf(number(n)))
		holds(t, list(number(n), document(field("n", number(n)))), bytesOf(list(number(n), document(field("n", number(n))))))
	}
}

// someNumbers are the powers of two with their neighbours, of either sign.
func someNumbers() []int64 {
	var out []int64
	for at := range 64 {
		p := int64(1) << at
		out = append(out, p-1, p, p+1, -p-1, -p, -p+1)
	}
	return out
}

func TestLongParts(t *testing.T) {
	for _, n := range []int{1, 2, 126, 127, 128, 129, 255, 256, 511, 999, 1000} {
		for _, r := range []string{"a", "\x00", "é", "\ufffd", "\U0010ffff"} {
			v := text(strings.Repeat(r, n))
			holds(t, v, append(append([]byte{5}, varint(uint64(n*len(r)))...), strings.Repeat(r, n)...))
		}
	}
	for _, n := range []int{1, 127, 128, 129, 1000, 1001, 3999, 4000} {
		b := bytes.Repeat([]byte{0xfe}, n)
		holds(t, octets(b...), append(append([]byte{6}, varint(uint64(n))...), b...))
	}
	for _, n := range []int{1, 127, 128, 129, 510, 511} {
		l := slices.Repeat([]api.Value{boolean(true)}, n)
		holds(t, list(l...), append(append([]byte{7}, varint(uint64(n))...), bytes.Repeat([]byte{3}, n)...))
		v, want := document(), append([]byte{8}, varint(uint64(n))...)
		for at := range n {
			name := fmt.Sprintf("f%03d", at)
			v.Fields = append(v.Fields, field(name, null()))
			want = append(append(append(want, 4), name...), 1)
		}
		holds(t, v, want)
	}
	for _, name := range []string{"_", strings.Repeat("a", 32), strings.Repeat("é", 32), strings.Repeat("\U0010ffff", 32)} {
		v := document(field(name, text("b")))
		holds(t, v, append(append(append([]byte{8, 1}, varint(uint64(len(name)))...), name...), 5, 1, 'b'))
	}
}

// ofSize is a value that has that many bytes, from 4200 on.
func ofSize(n int) api.Value {
	head := len(bytesOf(list(octets(make([]byte, 4000)...), octets(make([]byte, 128)...)))) - 128
	return list(octets(make([]byte, 4000)...), octets(bytes.Repeat([]byte{1}, n-head)...))
}

// ofSizeAsDocument does the same with fields.
func ofSizeAsDocument(n int) api.Value {
	long := strings.Repeat("\U0010ffff", 1000)
	head := len(bytesOf(document(field("a", text(long)), field("b", octets(make([]byte, 128)...))))) - 128
	return document(field("a", text(long)), field("b", octets(make([]byte, n-head)...)))
}

func TestToTheGreatestLength(t *testing.T) {
	for _, made := range []func(n int) api.Value{ofSize, ofSizeAsDocument} {
		inner := made(8000)
		if len(bytesOf(inner)) != 8000 {
			t.Fatalf("%d bytes", len(bytesOf(inner)))
		}
		for _, n := range []int{8000, 8190, 8191, 8192} {
			two := list(inner, octets(make([]byte, n-8000)...))
			if n < 8004 {
				two = inner
			} else {
				two.List[1].Bytes = make([]byte, n-len(bytesOf(two))+len(two.List[1].Bytes))
			}
			want := bytesOf(two)
			if len(want) != n {
				t.Fatalf("%d bytes, not %d", len(want), n)
			}
			holds(t, two, want)
		}
		for _, n := range []int{8193, 8194, 9000, 12003} {
			two := list(inner, octets(make([]byte, n-8000)...))
			two.List[1].Bytes = make([]byte, n-len(bytesOf(two))+len(two.List[1].Bytes))
			if got := len(bytesOf(two)); got != n {
				t.Fatalf("%d bytes, not %d", got, n)
			}
			refuses(t, fmt.Sprint(n), two, api.ErrDocLong, n)
			decodesNot(t, bytesOf(two))
		}
	}
}

// Size tells how many bytes there are also of the greatest of all values.
func TestSizeOfGreatValues(t *testing.T) {
	great := document()
	for at := range 511 {
		name := strings.Repeat("\U0010ffff", 29) + fmt.Sprintf("%03d", at)
		great.Fields = append(great.Fields, field(name, text(strings.Repeat("\U0010ffff", 1000))))
	}
	for _, v := range []api.Value{great, list(slices.Repeat([]api.Value{octets(make([]byte, 4000)...)}, 511)...)} {
		if value.Check(v) != api.OK {
			t.Fatal(value.Check(v))
		}
		refuses(t, "great", v, api.ErrDocLong, len(bytesOf(v)))
	}
	if n := doc.Size(list(slices.Repeat([]api.Value{octets(make([]byte, 4000)...)}, 511)...)); n != 3+511*4003 {
		t.Errorf("%d bytes", n)
	}
}

// refused are values that value.Check does not take, with its error; some have several, and some are too long, too.
func refused() map[string]struct {
	v    api.Value
	want api.Errno
} {
	type row = struct {
		v    api.Value
		want api.Errno
	}
	stray := func(change func(v *api.Value)) api.Value {
		v := null()
		change(&v)
		return v
	}
	torn, long := text("\xff"), text(strings.Repeat("a", 1001))
	great := octets(make([]byte, 4000)...)
	nulls := slices.Repeat([]api.Value{null()}, 600)
	greats := slices.Repeat([]api.Value{great}, 512)
	return map[string]row{
		"kind 0":                     {api.Value{}, api.ErrValueForm},
		"kind 8":                     {api.Value{Kind: 8}, api.ErrValueForm},
		"kind 255":                   {api.Value{Kind: 255}, api.ErrValueForm},
		"kind 0 in a list":           {list(null(), api.Value{}), api.ErrValueForm},
		"kind 0 in a document":       {document(field("a", api.Value{})), api.ErrValueForm},
		"a true null":                {stray(func(v *api.Value) { v.Bool = true }), api.ErrValueForm},
		"a null with a number":       {stray(func(v *api.Value) { v.Int = 1 }), api.ErrValueForm},
		"a null with a text":         {stray(func(v *api.Value) { v.Text = "a" }), api.ErrValueForm},
		"a null with bytes":          {stray(func(v *api.Value) { v.Bytes = []byte{1} }), api.ErrValueForm},
		"a null with a list":         {stray(func(v *api.Value) { v.List = nulls[:1] }), api.ErrValueForm},
		"a null with fields":         {stray(func(v *api.Value) { v.Fields = document(field("a", null())).Fields }), api.ErrValueForm},
		"a list with fields":         {api.Value{Kind: api.KindList, Fields: document(field("a", null())).Fields}, api.ErrValueForm},
		"a document with a list":     {api.Value{Kind: api.KindDoc, List: nulls[:1]}, api.ErrValueForm},
		"no UTF-8":                   {torn, api.ErrValueText},
		"no UTF-8 below":             {document(field("a", list(torn))), api.ErrValueText},
		"1001 runes":                 {long, api.ErrValueLong},
		"1001 runes below":           {list(list(long)), api.ErrValueLong},
		"1001 runes of four bytes":   {text(strings.Repeat("\U0010ffff", 1001)), api.ErrValueLong},
		"9000 runes":                 {text(strings.Repeat("a", 9000)), api.ErrValueLong},
		"4001 bytes":                 {octets(make([]byte, 4001)...), api.ErrValueLong},
		"9000 bytes":                 {octets(make([]byte, 9000)...), api.ErrValueLong},
		"nine deep":                  {inLists(9, null()), api.ErrValueDeep},
		"nine documents deep":        {inDocuments(9, null()), api.ErrValueDeep},
		"5000 deep":                  {inLists(5000, null()), api.ErrValueDeep},
		"513 parts":                  {list(nulls[:512]...), api.ErrValueMany},
		"513 parts below one":        {list(list(nulls[:511]...)), api.ErrValueMany},
		"names that fall":            {document(field("b", null()), field("a", null())), api.ErrValueForm},
		"a name twice":               {document(field("a", null()), field("a", null())), api.ErrValueForm},
		"no name":                    {document(field("", null())), api.ErrValueForm},
		"a digit's name":             {document(field("1", null())), api.ErrValueForm},
		"a name of 33 runes":         {document(field(strings.Repeat("a", 33), null())), api.ErrValueForm},
		"a name that is no UTF-8":    {document(field("\xff", null())), api.ErrValueForm},
		"deep, many and no UTF-8":    {list(append([]api.Value{inLists(9, torn)}, nulls...)...), api.ErrValueDeep},
		"many and no UTF-8":          {list(append([]api.Value{torn}, nulls...)...), api.ErrValueMany},
		"no UTF-8, then long":        {list(torn, long), api.ErrValueText},
		"long, then no UTF-8":        {list(long, torn), api.ErrValueLong},
		"form ahead of what's below": {document(field("b", torn), field("a", long)), api.ErrValueForm},
		"no UTF-8 and too long":      {list(great, great, great, torn), api.ErrValueText},
		"form and too long":          {list(great, great, great, api.Value{}), api.ErrValueForm},
		"long and too long":          {list(great, great, great, long), api.ErrValueLong},
		"deep and too long":          {list(great, great, great, inLists(8, null())), api.ErrValueDeep},
		"many and too long":          {list(greats...), api.ErrValueMany},
	}
}

func TestEncodeRefuses(t *testing.T) {
	for name, x := range refused() {
		if err := value.Check(x.v); err != x.want {
			t.Errorf("%s: Check %v, not %v", name, err, x.want)
		}
		refuses(t, name, x.v, x.want, 0)
	}
}

// drawn is a value of some of everything, at most depth deep.
func drawn(draw *rand.Rand, depth int) api.Value {
	kinds := 7
	if depth == 1 {
		kinds = 5
	}
	numbers := someNumbers()
	texts := []string{"", "a", "\x00", "é", "ab\u00ff", strings.Repeat("x", 130)}
	switch api.Kind(1 + draw.Intn(kinds)) {
	case api.KindBool:
		return boolean(draw.Intn(2) == 0)
	case api.KindInt:
		return number(numbers[draw.Intn(len(numbers))])
	case api.KindText:
		return text(texts[draw.Intn(len(texts))])
	case api.KindBytes:
		b := make([]byte, draw.Intn(4)*draw.Intn(50))
		draw.Read(b)
		return octets(b...)
	case api.KindList:
		v := list()
		for range draw.Intn(4) {
			v.List = append(v.List, drawn(draw, depth-1))
		}
		return v
	case api.KindDoc:
		v := document()
		for _, name := range []string{"Z", "_id", "a", "a1", "b", "é"} {
			if draw.Intn(3) == 0 {
				v.Fields = append(v.Fields, field(name, drawn(draw, depth-1)))
			}
		}
		return v
	}
	return null()
}

func TestDrawnValues(t *testing.T) {
	draw := rand.New(rand.NewSource(3))
	deepest, long := 0, 0
	for range 5000 {
		v := drawn(draw, 8)
		want := bytesOf(v)
		if err := value.Check(v); err != api.OK {
			refuses(t, "drawn", v, err, 0)
			continue
		}
		if len(want) > api.MaxValue {
			refuses(t, "drawn", v, api.ErrDocLong, len(want))
			continue
		}
		holds(t, v, want)
		long = max(long, len(want))
		for depth := range value.All(v) {
			deepest = max(deepest, depth)
		}
	}
	if deepest < 8 || long < 300 {
		t.Errorf("%d deep, %d bytes", deepest, long)
	}
}
