package doc_test

import (
	"bytes"
	"fmt"
	"math/rand"
	"runtime"
	"slices"
	"strings"
	"testing"

	"codicil/api"
	"codicil/doc"
	"codicil/value"
)

func decodes(t *testing.T, b []byte, v api.Value) {
	t.Helper()
	if got, err := doc.Decode(b); err != api.OK || !value.Same(got, v) {
		t.Errorf("%.80x: %s, %v, not %s", b, shown(got), err, shown(v))
	}
}

func decodesNot(t *testing.T, b []byte) {
	t.Helper()
	if got, err := doc.Decode(b); err != api.ErrDocForm || !value.Same(got, api.Value{}) {
		t.Errorf("%.80x: %s, %v", b, shown(got), err)
	}
}

func someValues() []api.Value {
	return []api.Value{null(), boolean(false), boolean(true), number(0), number(-1), number(300), number(-1 << 63),
		text(""), text("a"), text("é\x00b"), text(strings.Repeat("x", 200)), octets(), octets(0), octets(255, 0, 1), octets(make([]byte, 300)...),
		list(), list(list(), null()), list(text("\x00"), octets(0, 255), number(7), list(list(boolean(true)))), inLists(8, list()),
		document(), document(field("a", null())), document(field("a", number(1)), field("b", text("x"))),
		document(field("_id", number(5)), field("l", list(document(field("é", octets(8))), list())), field("m", document(field("x", document())))),
		inDocuments(8, text("end"))}
}

// None of a value's bytes begins with those of another one.
func TestCutOffAndGoneOn(t *testing.T) {
	for _, v := range someValues() {
		b := bytesOf(v)
		decodes(t, b, v)
		for n := range b {
			decodesNot(t, b[:n])
		}
		for c := range 256 {
			decodesNot(t, append(slices.Clone(b), byte(c)))
		}
		decodesNot(t, append(slices.Clone(b), b...))
	}
	decodesNot(t, nil)
	decodesNot(t, []byte{})
}

func TestTagsThatAreNone(t *testing.T) {
	for c := range 256 {
		if c >= 1 && c <= 8 {
			continue
		}
		for _, behind := range []string{"", "00", "01", "01 61", "01 61 01"} {
			b := append([]byte{byte(c)}, hexed(behind)...)
			decodesNot(t, b)
			decodesNot(t, append([]byte{7, 1}, b...))
			decodesNot(t, append([]byte{7, 2, 1}, b...))
			decodesNot(t, append([]byte{8, 1, 1, 'a'}, b...))
		}
	}
}

func TestDecodeRefuses(t *testing.T) {
	for _, s := range []string{
		// bytes too few
		"04", "05", "06", "07", "08", "07 01", "07 02 01", "08 01", "08 01 01", "08 01 01 61", "08 02 01 61 01", "08 02 01 61 01 01 62",
		// bytes too many
		"01 00", "01 01", "03 03", "04 00 00", "05 00 00", "05 01 61 62", "06 00 01", "07 00 01", "07 01 01 01", "08 00 00", "08 01 01 61 01 01",
		// numbers in another form
		"04 80", "04 80 00", "04 81 00", "04 ff 00", "04 80 80 00", "04 ac 82 00", "04 80 80 80 80 80 80 80 80 80 00", "04 ff ff ff ff ff ff ff ff ff 02", "04 ff ff ff ff ff ff ff ff ff 81 00", "04 80 80 80 80 80 80 80 80 80 80 01",
		"07 01 04 80 00", "08 01 01 61 04 81 00",
		// lengths and counts in another form
		"05 80 00", "05 81 00 61", "06 80 00", "06 81 00 61", "07 80 00", "07 81 00 01", "08 80 00", "08 81 00 01 61 01", "08 01 81 00 61 01",
		"05 81 80 00 61", "07 82 80 80 00 01 01",
		// lengths and counts that say more than there is
		"05 01", "05 02 61", "05 7f 61", "05 80 01 61", "06 01", "06 03 61 62", "05 ff ff ff ff ff ff ff ff ff 01", "06 ff ff ff ff ff ff ff ff ff 01 61", "05 ff ff ff ff ff ff ff ff 7f 61", "05 80 80 80 80 08 61",
		"07 02 01", "07 7f 01 01", "07 ff 03 01", "07 ff ff ff ff ff ff ff ff ff 01", "07 ff ff ff ff ff ff ff ff ff 01 01", "07 80 80 80 80 10", "07 80 80 80 80 80 80 80 80 80 01", "07 01 07 02 01",
		"08 02 01 61 01", "08 ff 03 01 61 01", "08 ff ff ff ff ff ff ff ff ff 01 01 61 01", "08 80 80 80 80 10 01 61 01", "08 01 02 61", "08 01 04 61 01", "08 01 ff ff ff ff ff ff ff ff ff 01 61 01",
		// texts that are no UTF-8
		"05 01 ff", "05 01 80", "05 01 c3", "05 02 c0 80", "05 03 ed a0 80", "05 04 f4 90 80 80", "05 03 61 e2 82", "05 02 c3 28", "05 05 f8 88 80 80 80",
		"07 01 05 01 ff", "07 02 05 01 61 05 01 fe", "08 01 01 61 05 01 c3",
		// names that are none
		"08 01 00 01", "08 01 01 31 01", "08 01 01 20 01", "08 01 01 00 01", "08 01 01 2d 01", "08 01 02 61 2e 01", "08 01 01 ff 01", "08 01 01 c3 01", "08 01 02 31 61 01", "08 02 01 61 01 00 01",
		// names that fall, or stand twice
		"08 02 01 62 01 01 61 01", "08 02 01 61 01 01 61 01", "08 02 01 61 01 01 61 02", "08 02 02 61 61 01 01 61 01", "08 02 01 61 01 01 41 01", "08 02 02 c3 a9 01 01 7a 01", "08 03 01 61 01 01 63 01 01 62 01", "08 03 01 61 01 01 62 01 01 61 01",
		"07 01 08 02 01 62 01 01 61 01", "08 01 01 61 08 02 01 62 01 01 62 01", "08 02 01 61 08 00 01 61 08 00",
	} {
		decodesNot(t, hexed(s))
		if v, err := doc.Decode(append([]byte{7, 2, 1}, hexed(s)...)); err != api.ErrDocForm || v.Kind != 0 {
			t.Errorf("%s in a list: %v, %v", s, v, err)
		}
	}
	decodes(t, hexed("08 02 01 61 01 01 62 01"), document(field("a", null()), field("b", null())))
	decodes(t, hexed("08 02 01 5a 01 02 c3 a9 01"), document(field("Z", null()), field("é", null())))
}

// manyFields is a document of n fields.
func manyFields(n int) api.Value {
	v := document()
	for at := range n {
		v.Fields = append(v.Fields, field(fmt.Sprintf("f%03d", at), null()))
	}
	return v
}

func TestReadToTheLimits(t *testing.T) {
	nulls := slices.Repeat([]api.Value{null()}, 8192)
	name := func(s string) api.Value { return document(field(s, null())) }
	for at, x := range []struct {
		v  api.Value
		ok bool
	}{
		{text(strings.Repeat("a", 1000)), true},
		{text(strings.Repeat("a", 1001)), false},
		{text(strings.Repeat("é", 1000)), true},
		{text(strings.Repeat("é", 1001)), false},
		{text(strings.Repeat("\U0010ffff", 1000)), true},
		{text(strings.Repeat("\U0010ffff", 1000) + "a"), false},
		{text(strings.Repeat("a", 4000)), false},
		{list(null(), text(strings.Repeat("a", 1001))), false},
		{octets(make([]byte, 4000)...), true},
		{octets(make([]byte, 4001)...), false},
		{octets(make([]byte, 8188)...), false},
		{document(field("a", octets(make([]byte, 4001)...))), false},
		{name(strings.Repeat("a", 32)), true},
		{name(strings.Repeat("a", 33)), false},
		{name(strings.Repeat("\U0010ffff", 32)), true},
		{name(strings.Repeat("\U0010ffff", 33)), false},
		{inLists(8, null()), true},
		{inLists(9, null()), false},
		{inLists(8, list()), true},
		{inLists(9, list()), false},
		{inDocuments(8, number(1)), true},
		{inDocuments(9, number(1)), false},
		{inLists(5, inDocuments(4, null())), true},
		{inLists(6, inDocuments(4, null())), false},
		{list(null(), inLists(7, null()), list()), true},
		{list(null(), inLists(8, null()), list()), false},
		{inLists(500, null()), false},
		{inLists(4000, null()), false},
		{list(nulls[:511]...), true},
		{list(nulls[:512]...), false},
		{list(nulls[:8000]...), false},
		{manyFields(511), true},
		{manyFields(512), false},
		{list(list(nulls[:255]...), list(nulls[:254]...)), true},
		{list(list(nulls[:255]...), list(nulls[:255]...)), false},
		{list(manyFields(255), list(nulls[:254]...)), true},
		{list(manyFields(255), list(nulls[:255]...)), false},
		{list(manyFields(509), null()), true},
		{list(manyFields(509), null(), null()), false},
		{document(field("a", list(nulls[:509]...)), field("b", null())), true},
		{document(field("a", list(nulls[:509]...)), field("b", null()), field("c", null())), false},
		{document(field("a", list(nulls[:509]...)), field("b", list(null()))), false},
	} {
		b := bytesOf(x.v)
		if len(b) > api.MaxValue {
			t.Fatalf("value %d: %d bytes", at, len(b))
		}
		if x.ok != (value.Check(x.v) == api.OK) {
			t.Errorf("value %d: Check %v", at, value.Check(x.v))
		}
		if x.ok {
			decodes(t, b, x.v)
		} else {
			decodesNot(t, b)
		}
	}
}

// Bytes may go on far beyond every limit.
func TestGreatRubbish(t *testing.T) {
	for _, s := range []string{"00", "01", "07 01", "07 7f", "07 ff 03", "07 02", "08 01 01 61", "08 ff 03 01 61", "05 01 61", "ff", "80"} {
		for _, n := range []int{8000, 8192, 8193, 1 << 20} {
			b := bytes.Repeat(hexed(s), n)[:n]
			decodesNot(t, b)
			for _, head := range []string{"05", "06 ff 7f", "07 ff 7f", "08 80 80 01", "07 ff ff ff ff ff ff ff ff ff 01"} {
				decodesNot(t, append(hexed(head), b...)[:n])
			}
		}
	}
}

// Lists in one another, each of which says that it has many values, take no more memory than one value's parts.
func TestCountsTakeNoMemory(t *testing.T) {
	for _, s := range []string{"07 ff 03", "07 80 02", "08 ff 03 01 61"} {
		b := bytes.Repeat(hexed(s), 1600)
		var before, after runtime.MemStats
		runtime.ReadMemStats(&before)
		decodesNot(t, b)
		runtime.ReadMemStats(&after)
		if took := after.TotalAlloc - before.TotalAlloc; took > 1<<20 {
			t.Errorf("%s: %d bytes were taken", s, took)
		}
	}
}

// As many bytes as a value may have are read; one more is not, be it left over or the value's own.
func TestTooManyBytes(t *testing.T) {
	full := list(octets(make([]byte, 4000)...), octets(make([]byte, 4000)...), octets(make([]byte, 181)...))
	if n := len(bytesOf(full)); n != 8192 {
		t.Fatalf("%d bytes", n)
	}
	decodes(t, bytesOf(full), full)
	decodesNot(t, append(bytesOf(full), 1))
	full.List[2].Bytes = make([]byte, 182)
	if value.Check(full) != api.OK || len(bytesOf(full)) != 8193 {
		t.Fatalf("%v, %d bytes", value.Check(full), len(bytesOf(full)))
	}
	decodesNot(t, bytesOf(full))
}

// decodesOnce looks that b is refused, or is just what its value is written as.
func decodesOnce(t *testing.T, b []byte) bool {
	t.Helper()
	v, err := doc.Decode(b)
	if err != api.OK {
		if err != api.ErrDocForm || !value.Same(v, api.Value{}) {
			t.Fatalf("%x: %s, %v", b, shown(v), err)
		}
		return false
	}
	again, err := doc.Encode(v)
	if err != api.OK || !bytes.Equal(again, b) || !bytes.Equal(bytesOf(v), b) || doc.Size(v) != len(b) || value.Check(v) != api.OK {
		t.Fatalf("%x: %s, again %x, %v", b, shown(v), again, err)
	}
	return true
}

func TestOneByteChanged(t *testing.T) {
	for _, v := range someValues() {
		b := bytesOf(v)
		taken, refused := 0, 0
		for at := range b {
			for c := 1; c < 256; c++ {
				other := slices.Clone(b)
				other[at] ^= byte(c)
				if !decodesOnce(t, other) {
					refused++
					continue
				}
				taken++
				if w, _ := doc.Decode(other); value.Same(v, w) {
					t.Fatalf("%x is the value of %x", other, b)
				}
			}
		}
		if refused == 0 || taken == 0 {
			t.Errorf("%s: %d taken, %d refused", shown(v), taken, refused)
		}
	}
}

func TestAnyBytes(t *testing.T) {
	draw := rand.New(rand.NewSource(5))
	signs := hexed("00 01 02 03 04 05 06 07 08 09 61 62 80 c3 ff")
	taken := 0
	for range 200000 {
		b := make([]byte, draw.Intn(14))
		for at := range b {
			b[at] = signs[draw.Intn(len(signs))]
		}
		if decodesOnce(t, b) {
			taken++
		}
	}
	if taken < 1000 {
		t.Errorf("%d taken", taken)
	}
}

// allBytes are all bytes of just that many signs.
func allBytes(signs []byte, n int) [][]byte {
	out := [][]byte{nil}
	for range n {
		var longer [][]byte
		for _, b := range out {
			for _, c := range signs {
				longer = append(longer, append(slices.Clone(b), c))
			}
		}
		out = longer
	}
	return out
}

// small makes all values whose bytes are of a few signs.
type small struct {
	signs []byte
	made  map[int][]api.Value
}

// values are those that have just that many bytes.
func (s small) values(n int) []api.Value {
	if made, is := s.made[n]; is {
		return made
	}
	var out []api.Value
	if n == 1 {
		out = append(out, null(), boolean(false), boolean(true))
	}
	for _, c := range s.signs {
		if n >= 2 && c < 128 && (c > 0 || n == 2) {
			out = append(out, s.numbers(c, n-2)...)
		}
		if n >= 2 && int(c) == n-2 {
			for _, b := range allBytes(s.signs, n-2) {
				out = append(out, octets(b...), text(string(b)))
			}
		}
		for _, l := range s.lists(int(c), n-2) {
			out = append(out, list(l...))
		}
		for _, f := range s.fields(int(c), n-2, "") {
			out = append(out, document(f...))
		}
	}
	out = slices.DeleteFunc(out, func(v api.Value) bool { return value.Check(v) != api.OK })
	s.made[n] = out
	return out
}

// numbers are those with that last byte, and that many ahead of it.
func (s small) numbers(last byte, ahead int) []api.Value {
	var out []api.Value
	high := slices.DeleteFunc(slices.Clone(s.signs), func(c byte) bool { return c < 128 })
	for _, b := range allBytes(high, ahead) {
		n := uint64(last)
		for _, c := range slices.Backward(b) {
			n = n*128 + uint64(c-128)
		}
		if n%2 == 1 {
			out = append(out, number(-int64(n/2)-1))
		} else {
			out = append(out, number(int64(n/2)))
		}
	}
	return out
}

// lists are those of that many values, with n bytes in all.
func (s small) lists(many, n int) [][]api.Value {
	if many == 0 && n == 0 {
		return [][]api.Value{nil}
	}
	var out [][]api.Value
	for size := 1; many > 0 && size <= n; size++ {
		for _, rest := range s.lists(many-1, n-size) {
			for _, v := range s.values(size) {
				out = append(out, append([]api.Value{v}, rest...))
			}
		}
	}
	return out
}

// fields are those of that many names that rise above one, with n bytes in all.
func (s small) fields(many, n int, above string) [][]api.Field {
	if many == 0 && n == 0 {
		return [][]api.Field{nil}
	}
	var out [][]api.Field
	for _, c := range s.signs {
		length := int(c)
		if many == 0 || length == 0 || length > n-2 {
			continue
		}
		for _, name := range allBytes(s.signs, length) {
			if !value.Name(string(name)) || string(name) <= above {
				continue
			}
			for size := 1; size <= n-1-length; size++ {
				for _, rest := range s.fields(many-1, n-1-length-size, string(name)) {
					for _, v := range s.values(size) {
						out = append(out, append([]api.Field{field(string(name), v)}, rest...))
					}
				}
			}
		}
	}
	return out
}

// Of all bytes of a few signs: those that are a value's are read as it, and nothing else is.
func TestDecodeOfAllBytes(t *testing.T) {
	for signs, longest := range map[string]int{"00 01 02 03 04 05 06 07 08 61 80": 6, "01 02 08 61 62": 8, "00 01 02 07 08 61": 7, "02 04 05 80 c3 a9": 7} {
		s := small{hexed(signs), map[int][]api.Value{}}
		for n := range longest + 1 {
			known := map[string]api.Value{}
			for _, v := range s.values(n) {
				b := bytesOf(v)
				if old, twice := known[string(b)]; twice || len(b) != n {
					t.Fatalf("%x: %v and %v", b, old, v)
				}
				known[string(b)] = v
			}
			for _, b := range allBytes(s.signs, n) {
				v, err := doc.Decode(b)
				want, is := known[string(b)]
				if is && (err != api.OK || !value.Same(v, want)) || !is && (err != api.ErrDocForm || v.Kind != 0) {
					t.Fatalf("%x: %v, %v", b, v, err)
				}
			}
		}
	}
}
