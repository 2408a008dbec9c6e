package code

import (
	"bytes"
	"math"
	"math/bits"
	"slices"
	"strings"
	"testing"

	"codicil/api"
)

// wants looks at all that a reader tells of where it stands.
func wants(t *testing.T, r *Reader, left int, err api.Errno, place int) {
	t.Helper()
	if got := r.Left(); got != left {
		t.Errorf("Left %d, not %d", got, left)
	}
	if e, at := r.Err(); e != err || at != place {
		t.Errorf("Err %v at %d, not %v at %d", e, at, err, place)
	}
	end := err
	if err == api.OK && left > 0 {
		end = api.ErrCodeForm
	}
	if got := r.End(); got != end {
		t.Errorf("End %v, not %v", got, end)
	}
}

func written(write func(w *Writer)) []byte {
	w := New()
	write(w)
	return w.Bytes()
}

func varintOf(v uint64) []byte { return written(func(w *Writer) { w.Varint(v) }) }

// reckoned is the chapter's rule of a varint, by dividing: it shares nothing with the program.
func reckoned(v uint64) []byte {
	var out []byte
	for {
		group := byte(v % 128)
		v /= 128
		if v == 0 {
			return append(out, group)
		}
		out = append(out, group+128)
	}
}

// numbers are each power of two with its neighbours, and some that look like nothing.
func numbers() []uint64 {
	out := []uint64{0, math.MaxUint64}
	for i := range 64 {
		p := uint64(1) << i
		out = append(out, p-1, p, p+1, p|1<<(i/2))
	}
	x := uint64(12345)
	for i := range 500 {
		x = x*6364136223846793005 + 1442695040888963407
		out = append(out, x>>(i%64))
	}
	slices.Sort(out)
	return slices.Compact(out)
}

func TestFirstExample(t *testing.T) {
	w := New()
	w.U16(258)
	w.Varint(300)
	w.Signed(-1)
	w.Text("ab")
	b := w.Bytes()
	if !bytes.Equal(b, []byte{0x01, 0x02, 0xac, 0x02, 0x01, 0x02, 0x61, 0x62}) || w.Len() != 8 {
		t.Errorf("written %x, Len %d", b, w.Len())
	}
	r := Read(b)
	wants(t, r, 8, api.OK, 0)
	if v := r.U16(); v != 258 {
		t.Errorf("U16 %d", v)
	}
	if v := r.Varint(); v != 300 {
		t.Errorf("Varint %d", v)
	}
	if v := r.Signed(); v != -1 {
		t.Errorf("Signed %d", v)
	}
	if v := r.Text(); v != "ab" {
		t.Errorf("Text %q", v)
	}
	wants(t, r, 0, api.OK, 0)
}

func TestSecondExample(t *testing.T) {
	r := Read([]byte{0x80})
	if v := r.Varint(); v != 0 {
		t.Errorf("Varint %d", v)
	}
	wants(t, r, 1, api.ErrCodeShort, 0)
	r = Read([]byte{0x80, 0x00})
	if v := r.Varint(); v != 0 {
		t.Errorf("Varint %d", v)
	}
	wants(t, r, 2, api.ErrCodeForm, 0)
	r = Read([]byte{0x05, 0x61})
	if v := r.Text(); v != "" {
		t.Errorf("Text %q", v)
	}
	wants(t, r, 2, api.ErrCodeShort, 0)
	if v := r.U8(); v != 0 {
		t.Errorf("U8 %d", v)
	}
	wants(t, r, 2, api.ErrCodeShort, 0)
}

func TestThirdExample(t *testing.T) {
	r := Read([]byte{0x01, 0x02})
	if v := r.U8(); v != 1 {
		t.Errorf("U8 %d", v)
	}
	wants(t, r, 1, api.OK, 0)
	if v := r.U8(); v != 2 {
		t.Errorf("U8 %d", v)
	}
	wants(t, r, 0, api.OK, 0)
	if v := r.Raw(-1); len(v) != 0 {
		t.Errorf("Raw %x", v)
	}
	wants(t, r, 0, api.ErrArg, 2)
}

func TestNothing(t *testing.T) {
	if w := New(); len(w.Bytes()) != 0 || w.Len() != 0 {
		t.Errorf("a new writer has %x, %d", w.Bytes(), w.Len())
	}
	for _, b := range [][]byte{nil, {}, []byte{1, 2, 3}[:0]} {
		r := Read(b)
		wants(t, r, 0, api.OK, 0)
		if v := r.Raw(0); len(v) != 0 {
			t.Errorf("Raw(0) of nothing: %x", v)
		}
		wants(t, r, 0, api.OK, 0)
	}
	if b := written(func(w *Writer) { w.Raw(nil); w.Raw([]byte{}); w.Text("") }); !bytes.Equal(b, []byte{0}) {
		t.Errorf("two empty lists and an empty text: %x", b)
	}
}

func TestFixedLengthsAsBytes(t *testing.T) {
	for _, c := range []struct {
		name  string
		write func(w *Writer)
		want  []byte
	}{
		{"U8 least", func(w *Writer) { w.U8(0) }, []byte{0}},
		{"U8", func(w *Writer) { w.U8(0x81) }, []byte{0x81}},
		{"U8 greatest", func(w *Writer) { w.U8(math.MaxUint8) }, []byte{255}},
		{"U16 least", func(w *Writer) { w.U16(0) }, []byte{0, 0}},
		{"U16", func(w *Writer) { w.U16(0x8102) }, []byte{0x81, 2}},
		{"U16 greatest", func(w *Writer) { w.U16(math.MaxUint16) }, []byte{255, 255}},
		{"U32 least", func(w *Writer) { w.U32(0) }, []byte{0, 0, 0, 0}},
		{"U32", func(w *Writer) { w.U32(0x81020384) }, []byte{0x81, 2, 3, 0x84}},
		{"U32 greatest", func(w *Writer) { w.U32(math.MaxUint32) }, []byte{255, 255, 255, 255}},
		{"U64 least", func(w *Writer) { w.U64(0) }, []byte{0, 0, 0, 0, 0, 0, 0, 0}},
		{"U64", func(w *Writer) { w.U64(0x8102038405068708) }, []byte{0x81, 2, 3, 0x84, 5, 6, 0x87, 8}},
		{"U64 greatest", func(w *Writer) { w.U64(math.MaxUint64) }, bytes.Repeat([]byte{255}, 8)},
	} {
		if got := written(c.write); !bytes.Equal(got, c.want) {
			t.Errorf("%s: %x, not %x", c.name, got, c.want)
		}
	}
}

// Each number is read back by its own call, with a byte ahead of it and one behind.
func TestFixedLengthsThereAndBack(t *testing.T) {
	for _, v := range numbers() {
		w := New()
		w.U8(7)
		w.U8(uint8(v))
		w.U16(uint16(v))
		w.U32(uint32(v))
		w.U64(v)
		w.U8(9)
		if w.Len() != 17 {
			t.Fatalf("Len %d", w.Len())
		}
		r := Read(w.Bytes())
		if a, b := r.U8(), r.U8(); a != 7 || b != uint8(v) {
			t.Errorf("U8 of %x: %x, behind %x", v, b, a)
		}
		if b := r.U16(); b != uint16(v) {
			t.Errorf("U16 of %x: %x", v, b)
		}
		if b := r.U32(); b != uint32(v) {
			t.Errorf("U32 of %x: %x", v, b)
		}
		if b := r.U64(); b != v {
			t.Errorf("U64 of %x: %x", v, b)
		}
		wants(t, r, 1, api.OK, 0)
		if b := r.U8(); b != 9 {
			t.Errorf("behind them: %x", b)
		}
		wants(t, r, 0, api.OK, 0)
	}
}

func TestVarintAsBytes(t *testing.T) {
	for _, c := range []struct {
		v    uint64
		want []byte
	}{
		{0, []byte{0}},
		{1, []byte{1}},
		{127, []byte{0x7f}},
		{128, []byte{0x80, 1}},
		{300, []byte{0xac, 2}},
		{16383, []byte{0xff, 0x7f}},
		{16384, []byte{0x80, 0x80, 1}},
		{1<<63 - 1, []byte{255, 255, 255, 255, 255, 255, 255, 255, 0x7f}},
		{1 << 63, []byte{128, 128, 128, 128, 128, 128, 128, 128, 128, 1}},
		{math.MaxUint64, []byte{255, 255, 255, 255, 255, 255, 255, 255, 255, 1}},
	} {
		if got := varintOf(c.v); !bytes.Equal(got, c.want) {
			t.Errorf("%d: %x, not %x", c.v, got, c.want)
		}
	}
	for _, v := range numbers() {
		if got, want := varintOf(v), reckoned(v); !bytes.Equal(got, want) {
			t.Errorf("%d: %x, not %x", v, got, want)
		}
	}
}

func TestVarintThereAndBack(t *testing.T) {
	seen := 0
	for _, v := range numbers() {
		b := varintOf(v)
		if want := max(1, (bits.Len64(v)+6)/7); len(b) != want {
			t.Errorf("%d has %d bytes, not %d", v, len(b), want)
		}
		seen |= 1 << len(b)
		r := Read(append(b, 0x80))
		if got := r.Varint(); got != v {
			t.Errorf("%d is read as %d", v, got)
		}
		wants(t, r, 1, api.OK, 0)
	}
	if seen != 1<<11-2 {
		t.Errorf("varints of one to ten bytes: only %b", seen)
	}
}

func TestGreaterHasNeverShorterVarint(t *testing.T) {
	rising := numbers()
	for i, v := range rising[1:] {
		if a, b := varintOf(rising[i]), varintOf(v); len(b) < len(a) {
			t.Errorf("%d has %d bytes, %d has %d", rising[i], len(a), v, len(b))
		}
	}
	last := 0
	for v := range uint64(40000) {
		n := len(varintOf(v))
		if n < last {
			t.Fatalf("%d has %d bytes, the one ahead of it %d", v, n, last)
		}
		last = n
	}
}

// What is read as a varint is what that number is written as: no other bytes are one.
func TestNumberHasOneForm(t *testing.T) {
	for hi := range 256 {
		for lo := range 256 {
			for _, mid := range []byte{0, 1, 0x7f, 0x80, 0x81, 0xff} {
				b := []byte{byte(lo), mid, byte(hi)}
				r := Read(b)
				v := r.Varint()
				e, _ := r.Err()
				if n := len(b) - r.Left(); e == api.OK && !bytes.Equal(varintOf(v), b[:n]) {
					t.Fatalf("%x is read as %d, which is %x", b[:n], v, varintOf(v))
				}
			}
		}
	}
	for last := range 256 {
		b := append(bytes.Repeat([]byte{0x95}, 9), byte(last))
		r := Read(b)
		v := r.Varint()
		if e, _ := r.Err(); (e == api.OK) != (last == 1) {
			t.Errorf("tenth byte %x: %v", last, e)
		} else if e == api.OK && !bytes.Equal(varintOf(v), b) {
			t.Errorf("%x is read as %d", b, v)
		}
	}
}

func TestWrongVarints(t *testing.T) {
	more := bytes.Repeat([]byte{0x80}, 20)
	for _, c := range []struct {
		name string
		b    []byte
		want api.Errno
	}{
		{"nothing", nil, api.ErrCodeShort},
		{"one of two", []byte{0xff}, api.ErrCodeShort},
		{"noughts that may go on", []byte{0x80, 0x80}, api.ErrCodeShort},
		{"nine of ten", more[:9], api.ErrCodeShort},
		{"nine of ten, all ones", bytes.Repeat([]byte{0xff}, 9), api.ErrCodeShort},
		{"last byte 0 of two", []byte{0x80, 0}, api.ErrCodeForm},
		{"last byte 0 of two, more behind it", []byte{0xff, 0, 1, 1}, api.ErrCodeForm},
		{"last byte 0 of nine", append(bytes.Clone(more[:8]), 0), api.ErrCodeForm},
		{"tenth byte 0", append(bytes.Clone(more[:9]), 0), api.ErrCodeForm},
		{"tenth byte 2", append(bytes.Clone(more[:9]), 2), api.ErrCodeForm},
		{"tenth byte 3", append(bytes.Clone(more[:9]), 3), api.ErrCodeForm},
		{"tenth byte 7f", append(bytes.Clone(more[:9]), 0x7f), api.ErrCodeForm},
		{"tenth byte 80, nothing behind it", more[:10], api.ErrCodeForm},
		{"tenth byte 81, nothing behind it", append(bytes.Clone(more[:9]), 0x81), api.ErrCodeForm},
		{"eleven bytes", append(bytes.Clone(more[:10]), 1), api.ErrCodeForm},
		{"eleven bytes, tenth 81", append(bytes.Clone(more[:9]), 0x81, 1), api.ErrCodeForm},
		{"twenty bytes", more, api.ErrCodeForm},
	} {
		for ahead := range 3 {
			b := append(make([]byte, ahead), c.b...)
			for name, read := range map[string]func(r *Reader) bool{
				"Varint": func(r *Reader) bool { return r.Varint() == 0 },
				"Signed": func(r *Reader) bool { return r.Signed() == 0 },
				"Text":   func(r *Reader) bool { return r.Text() == "" },
			} {
				r := Read(b)
				r.Raw(ahead)
				if !read(r) {
					t.Errorf("%s, %s: an answer", c.name, name)
				}
				wants(t, r, len(c.b), c.want, ahead)
			}
		}
	}
}

func TestSigned(t *testing.T) {
	for _, c := range []struct {
		v    int64
		want uint64
	}{
		{0, 0}, {-1, 1}, {1, 2}, {-2, 3}, {2, 4}, {-64, 127}, {64, 128}, {-65, 129},
		{math.MaxInt64, math.MaxUint64 - 1}, {math.MinInt64, math.MaxUint64},
		{math.MinInt64 + 1, math.MaxUint64 - 2}, {math.MaxInt64 - 1, math.MaxUint64 - 3},
	} {
		b := written(func(w *Writer) { w.Signed(c.v) })
		if !bytes.Equal(b, reckoned(c.want)) {
			t.Errorf("%d: %x, not the varint of %d", c.v, b, c.want)
		}
	}
	for _, u := range numbers() {
		for _, v := range []int64{int64(u), -int64(u)} {
			r := Read(append(written(func(w *Writer) { w.Signed(v) }), 5))
			if got := r.Signed(); got != v {
				t.Errorf("%d is read as %d", v, got)
			}
			wants(t, r, 1, api.OK, 0)
		}
		r := Read(varintOf(u))
		if v := r.Signed(); !bytes.Equal(written(func(w *Writer) { w.Signed(v) }), varintOf(u)) {
			t.Errorf("the varint of %d is read as %d, which is written otherwise", u, v)
		}
	}
}

func TestRaw(t *testing.T) {
	all := []byte{0, 0x80, 255, 7, 8}
	b := written(func(w *Writer) { w.Raw(all[:2]); w.Raw(all[2:]) })
	if !bytes.Equal(b, all) {
		t.Errorf("written %x", b)
	}
	for n := range len(all) + 1 {
		r := Read(all)
		if got := r.Raw(n); !bytes.Equal(got, all[:n]) {
			t.Errorf("Raw(%d): %x", n, got)
		}
		wants(t, r, len(all)-n, api.OK, 0)
		if got := r.Raw(len(all) - n); !bytes.Equal(got, all[n:]) {
			t.Errorf("Raw(%d) behind %d: %x", len(all)-n, n, got)
		}
		wants(t, r, 0, api.OK, 0)
	}
}

func TestRawOfWrongNumber(t *testing.T) {
	for _, c := range []struct {
		n    int
		want api.Errno
	}{
		{-1, api.ErrArg}, {-2, api.ErrArg}, {math.MinInt, api.ErrArg},
		{4, api.ErrCodeShort}, {5, api.ErrCodeShort}, {math.MaxInt, api.ErrCodeShort},
	} {
		r := Read([]byte{1, 2, 3, 4, 5})
		r.U16()
		if got := r.Raw(c.n); got != nil {
			t.Errorf("Raw(%d): %x", c.n, got)
		}
		wants(t, r, 3, c.want, 2)
	}
}

func TestText(t *testing.T) {
	for _, s := range []string{"", "a", "ab", "\x00", "ä\xff\xfe", strings.Repeat("x", 127), strings.Repeat("y", 128), strings.Repeat("é", 20000)} {
		b := written(func(w *Writer) { w.Text(s) })
		if want := append(reckoned(uint64(len(s))), s...); !bytes.Equal(b, want) {
			t.Errorf("a text of %d bytes is written as %d", len(s), len(b))
		}
		r := Read(append(b, 'z'))
		if got := r.Text(); got != s {
			t.Errorf("a text of %d bytes is read as one of %d", len(s), len(got))
		}
		wants(t, r, 1, api.OK, 0)
	}
}

func TestTextOfWrongLength(t *testing.T) {
	lengths := []uint64{4, 5, 127, 128, 1 << 31, 1 << 32, 1<<32 + 3, math.MaxInt64, 1 << 63, 1<<63 + 3, math.MaxUint64}
	for _, n := range lengths {
		b := append([]byte{9, 9}, append(varintOf(n), "abc"...)...)
		r := Read(b)
		r.U16()
		if got := r.Text(); got != "" {
			t.Errorf("length %d: %q", n, got)
		}
		wants(t, r, len(b)-2, api.ErrCodeShort, 2)
	}
}

// call is one of a reader's calls; zero says whether it answers its zero value.
type call struct {
	name string
	size int
	zero func(r *Reader) bool
}

func calls() []call {
	return []call{
		{"U8", 1, func(r *Reader) bool { return r.U8() == 0 }},
		{"U16", 2, func(r *Reader) bool { return r.U16() == 0 }},
		{"U32", 4, func(r *Reader) bool { return r.U32() == 0 }},
		{"U64", 8, func(r *Reader) bool { return r.U64() == 0 }},
		{"Varint", 1, func(r *Reader) bool { return r.Varint() == 0 }},
		{"Signed", 1, func(r *Reader) bool { return r.Signed() == 0 }},
		{"Raw", 3, func(r *Reader) bool { return r.Raw(3) == nil }},
		{"Raw of none", 0, func(r *Reader) bool { return len(r.Raw(0)) == 0 }},
		{"Raw below 0", 0, func(r *Reader) bool { return r.Raw(-1) == nil }},
		{"Text", 2, func(r *Reader) bool { return r.Text() == "" }},
	}
}

func TestShortFields(t *testing.T) {
	for _, c := range calls() {
		for left := range c.size {
			for ahead := range 3 {
				r := Read(bytes.Repeat([]byte{1}, ahead+left))
				r.Raw(ahead)
				if !c.zero(r) {
					t.Errorf("%s of %d bytes: an answer", c.name, left)
				}
				wants(t, r, left, api.ErrCodeShort, ahead)
			}
		}
	}
}

func TestReaderWithAnErrorReadsNothingMore(t *testing.T) {
	for _, f := range []struct {
		name string
		want api.Errno
		fail func(r *Reader)
	}{
		{"ErrCodeShort", api.ErrCodeShort, func(r *Reader) { r.Raw(100) }},
		{"ErrArg", api.ErrArg, func(r *Reader) { r.Raw(-5) }},
		{"ErrCodeForm", api.ErrCodeForm, func(r *Reader) { r.Varint() }},
		{"ErrCodeForm of a text", api.ErrCodeForm, func(r *Reader) { r.Text() }},
	} {
		r := Read(append([]byte{1, 1, 0x80, 0}, bytes.Repeat([]byte{1}, 30)...))
		r.U16()
		f.fail(r)
		wants(t, r, 32, f.want, 2)
		for _, c := range append(calls(), calls()...) {
			if !c.zero(r) {
				t.Errorf("%s behind %s: an answer", c.name, f.name)
			}
			wants(t, r, 32, f.want, 2)
		}
	}
}

func TestErrorAtTheFirstByteHasItsPlace(t *testing.T) {
	r := Read(nil)
	r.U8()
	wants(t, r, 0, api.ErrCodeShort, 0)
	r.Raw(-1)
	wants(t, r, 0, api.ErrCodeShort, 0)
}

func TestEndGivesNoError(t *testing.T) {
	r := Read([]byte{5, 6})
	for range 3 {
		wants(t, r, 2, api.OK, 0)
	}
	if a, b := r.U8(), r.U8(); a != 5 || b != 6 {
		t.Errorf("behind End: %d %d", a, b)
	}
	wants(t, r, 0, api.OK, 0)
}

// What is written is read by the same calls, in the same order, up to the end.
func TestManyFieldsThereAndBack(t *testing.T) {
	for seed := range uint64(200) {
		w := New()
		var back []func(r *Reader) bool
		x := seed
		for range 60 {
			x = x*6364136223846793005 + 1442695040888963407
			v := x >> (x >> 58)
			s := strings.Repeat("q", int(v%300))
			before := w.Len()
			switch x >> 40 % 8 {
			case 0:
				w.U8(uint8(v))
				back = append(back, func(r *Reader) bool { return r.U8() == uint8(v) })
			case 1:
				w.U16(uint16(v))
				back = append(back, func(r *Reader) bool { return r.U16() == uint16(v) })
			case 2:
				w.U32(uint32(v))
				back = append(back, func(r *Reader) bool { return r.U32() == uint32(v) })
			case 3:
				w.U64(v)
				back = append(back, func(r *Reader) bool { return r.U64() == v })
			case 4:
				w.Varint(v)
				back = append(back, func(r *Reader) bool { return r.Varint() == v })
			case 5:
				w.Signed(int64(v))
				back = append(back, func(r *Reader) bool { return r.Signed() == int64(v) })
			case 6:
				w.Raw([]byte(s))
				back = append(back, func(r *Reader) bool { return string(r.Raw(len(s))) == s })
			case 7:
				w.Text(s)
				back = append(back, func(r *Reader) bool { return r.Text() == s })
			}
			if w.Len() < before || w.Len() != len(w.Bytes()) {
				t.Fatalf("Len %d, %d bytes", w.Len(), len(w.Bytes()))
			}
		}
		readBack(t, w.Bytes(), back)
	}
}

// readBack also reads all beginnings of the bytes: one that is cut off can't be read to its end.
func readBack(t *testing.T, b []byte, back []func(r *Reader) bool) {
	t.Helper()
	r := Read(b)
	for i, same := range back {
		if !same(r) {
			t.Fatalf("field %d is not what was written", i)
		}
	}
	wants(t, r, 0, api.OK, 0)
	for cut := max(0, len(b)-40); cut < len(b); cut++ {
		r := Read(b[:cut])
		for _, same := range back {
			same(r)
		}
		if e, _ := r.Err(); e != api.ErrCodeShort {
			t.Fatalf("%d of %d bytes: %v", cut, len(b), e)
		}
	}
}

func TestWhatIsHandedInIsNeitherChangedNorKept(t *testing.T) {
	whole := []byte{3, 'a', 'b', 'c', 4, 5, 6}
	before := bytes.Clone(whole)
	w := New()
	w.Raw(whole[:4])
	text := string(whole[1:4])
	w.Text(text)
	w.U8(77)
	r := Read(whole[:4])
	if !bytes.Equal(whole, before) {
		t.Errorf("changed: %x", whole)
	}
	clear(whole)
	if got := w.Bytes(); !bytes.Equal(got, []byte{3, 'a', 'b', 'c', 3, 'a', 'b', 'c', 77}) {
		t.Errorf("the writer has kept what was handed in: %x", got)
	}
	if got := r.Text(); got != "abc" {
		t.Errorf("the reader has kept what was handed in: %q", got)
	}
	wants(t, r, 0, api.OK, 0)
	r.U8()
	wants(t, r, 0, api.ErrCodeShort, 4)
}

func TestWhatComesOutIsItsOwners(t *testing.T) {
	w := New()
	w.Raw([]byte("abcdef"))
	first, second := w.Bytes(), w.Bytes()
	spoil(first)
	if !bytes.Equal(second, []byte("abcdef")) || !bytes.Equal(w.Bytes(), []byte("abcdef")) {
		t.Errorf("Bytes, changed afterwards: %x, %x", second, w.Bytes())
	}
	w.U8('g')
	if !bytes.Equal(second, []byte("abcdef")) || !bytes.Equal(w.Bytes(), []byte("abcdefg")) {
		t.Errorf("written behind Bytes: %x, %x", second, w.Bytes())
	}
	r := Read([]byte("abcdef"))
	a, b := r.Raw(2), r.Raw(2)
	spoil(a)
	if !bytes.Equal(b, []byte("cd")) {
		t.Errorf("Raw, changed afterwards, changes another one: %x", b)
	}
	if c := r.Raw(2); !bytes.Equal(c, []byte("ef")) {
		t.Errorf("Raw, changed afterwards, changes the reader: %x", c)
	}
	r = Read([]byte("abcdef"))
	spoil(r.Raw(0))
	if c := r.Raw(6); !bytes.Equal(c, []byte("abcdef")) {
		t.Errorf("Raw(0), added to, changes the reader: %x", c)
	}
}

// spoil writes over a list and the room behind it.
func spoil(b []byte) {
	b = b[:cap(b)]
	for i := range b {
		b[i] = 'X'
	}
}

// Readers and writers know nothing of one another.
func TestEachStandsAlone(t *testing.T) {
	v, w := New(), New()
	v.U8(1)
	if w.Len() != 0 || v.Len() != 1 {
		t.Errorf("Len %d and %d", v.Len(), w.Len())
	}
	b := []byte{1, 2}
	q, r := Read(b), Read(b)
	q.Raw(-1)
	if got := r.U16(); got != 258 {
		t.Errorf("U16 beside a reader with an error: %d", got)
	}
	wants(t, q, 2, api.ErrArg, 0)
	wants(t, r, 0, api.OK, 0)
}
