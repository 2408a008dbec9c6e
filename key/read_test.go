package key_test

import (
	"bytes"
	"fmt"
	"math/rand"
	"slices"
	"strings"
	"testing"

	"codicil/api"
	"codicil/key"
	"codicil/value"
)

// shown is the beginning of a thing's text: some are great.
func shown(thing any) string {
	s := fmt.Sprint(thing)
	return s[:min(len(s), 200)]
}

// splits looks whether b, falling or not, begins with v's bytes, and rest is left.
func splits(t *testing.T, b []byte, down bool, v api.Value, rest []byte) {
	t.Helper()
	got, left, err := key.Split(b, down)
	if err != api.OK || !value.Same(got, v) || !bytes.Equal(left, rest) {
		t.Errorf("%.60x, falling %v: %s, %.60x, %v", b, down, shown(got), left, err)
	}
}

func splitsNot(t *testing.T, b []byte, down bool) {
	t.Helper()
	got, left, err := key.Split(b, down)
	if err != api.ErrKeyForm || !value.Same(got, api.Value{}) || len(left) != 0 {
		t.Errorf("%.60x, falling %v: %s, %.60x, %v", b, down, shown(got), left, err)
	}
}

func decodesNot(t *testing.T, b []byte, down []bool, place int) {
	t.Helper()
	l, err, at := key.Decode(b, down)
	if err != api.ErrKeyForm || at != place || len(l) != 0 {
		t.Errorf("%.60x, down %v: %s, %v, %d, not %d", b, down, shown(l), err, at, place)
	}
}

func someValues() []api.Value {
	return tuple(null(), boolean(false), boolean(true), number(0), number(-1), number(1<<40),
		text(""), text("a"), text("a\x00\x01é"), octets(), octets(0), octets(255, 0, 1, 254), list(), list(list(), null()),
		list(text("\x00"), octets(0, 255), number(7), list(list(boolean(true)))), inLists(8, list()))
}

func TestSplitLeavesTheRest(t *testing.T) {
	for _, v := range someValues() {
		for _, down := range bothWays {
			one := oneOf(v, down)
			for _, rest := range []string{"", "00", "01", "ff", "fe", "00 ff", "00 01", "ff 00", "10", "ef", "10 11 12", "60 60 60"} {
				splits(t, append(slices.Clone(one), hexed(rest)...), down, v, hexed(rest))
			}
			splits(t, append(slices.Clone(one), one...), down, v, one)
		}
	}
}

func TestCutOff(t *testing.T) {
	for _, v := range someValues() {
		for _, down := range bothWays {
			one := oneOf(v, down)
			for n := range one {
				splitsNot(t, one[:n], down)
				if n > 0 {
					decodesNot(t, one[:n], []bool{down}, 0)
					decodesNot(t, append([]byte{0x10}, one[:n]...), []bool{false, down}, 1)
				}
			}
		}
	}
	splitsNot(t, nil, false)
	splitsNot(t, []byte{}, true)
}

func TestDecodeOfEncode(t *testing.T) {
	for _, down := range [][]bool{nil, {true}, {false, true}, {true, true, true, true, true}} {
		for _, l := range drawnTuples(9, 400, 3) {
			b, err := key.Encode(l, down)
			if err != api.OK {
				t.Fatal(err)
			}
			back, err, at := key.Decode(b, down)
			if err != api.OK || at != 0 || !sameTuples(back, l) {
				t.Fatalf("%v, down %v: %v, %v, %d", l, down, back, err, at)
			}
		}
	}
	for _, b := range [][]byte{nil, {}} {
		if l, err, at := key.Decode(b, []bool{true}); len(l) != 0 || err != api.OK || at != 0 {
			t.Errorf("no bytes: %v, %v, %d", l, err, at)
		}
	}
}

// Where a prefix of a tuple's bytes ends within a value, that value's place is told; where it ends behind one, it is a shorter tuple.
func TestDecodeOfTuplesCutOff(t *testing.T) {
	for _, l := range [][]api.Value{
		{text("a\x00"), number(5), list(null(), octets(0)), boolean(true)},
		{list(), list(list()), octets(1, 0, 2)},
	} {
		for _, down := range [][]bool{nil, {true}, {false, true, true}} {
			b := tupleBytes(l, down)
			ends := []int{0}
			for n := range l {
				ends = append(ends, len(tupleBytes(l[:n+1], down)))
			}
			for n := range len(b) + 1 {
				whole, isEnd := slices.BinarySearch(ends, n)
				if !isEnd {
					decodesNot(t, b[:n], down, ends[whole-1])
					continue
				}
				if got, err, at := key.Decode(b[:n], down); err != api.OK || at != 0 || !sameTuples(got, l[:whole]) {
					t.Errorf("%x: %v, %v, %d", b[:n], got, err, at)
				}
			}
		}
	}
}

func TestDecodePlaces(t *testing.T) {
	for _, x := range []struct {
		b     string
		down  []bool
		place int
	}{
		{"00", nil, 0},
		{"01", nil, 0},
		{"11", nil, 0},
		{"22", nil, 0},
		{"70", nil, 0},
		{"ff", nil, 0},
		{"10", []bool{true}, 0},
		{"ef", nil, 0},
		{"ef", []bool{false, true}, 0},
		{"10 ef", nil, 1},
		{"10 10", []bool{false, true}, 1},
		{"ef 10", []bool{true, true}, 1},
		{"10 21 40 61 00 01 01", nil, 6},
		{"10 21 40 61 00 02", nil, 2},
		{"60 10 21", nil, 0},
		{"60 10 11 01", nil, 0},
		{"60 10 01 01", nil, 3},
		{"10 10 10 10 10", nil, 4},
		{"10 10 10 10 11", nil, 4},
		{"10 10 10 10 10 10 10", nil, 4},
		{"10 10 10 11 10", nil, 3},
		{"10 10 10 11", nil, 3},
		{"40 61 00 01 50 00 01 60 01 20 00", nil, 10},
		{"40 61 00 01 50 00 01 60 01 20 40 00 01", nil, 10},
		{"ef ef ef ef ef", []bool{true, true, true, true, true}, 4},
		{"ef ef ef ef 10", []bool{true, true, true, true, false}, 4},
		{"10 30 80 00 00 00 00 00 00", nil, 1},
		{"10 40 ff 00 01", nil, 1},
	} {
		decodesNot(t, hexed(x.b), x.down, x.place)
	}
	many := bytes.Repeat([]byte{0x10}, 1<<20)
	decodesNot(t, many, nil, 4)
}

func TestSplitRefuses(t *testing.T) {
	for _, s := range []string{
		"", "00", "01", "0f", "11", "1f", "22", "2f", "31", "3f", "41 61 00 01", "51 00 01", "61 01", "70", "70 01", "80", "ff",
		"30", "30 80 00 00 00 00 00 00", "40", "40 00", "40 61", "40 61 00", "40 00 02", "40 61 00 00", "40 61 00 00 01", "40 61 00 fe", "40 00 ff", "40 00 ff 00", "40 61 01",
		"50", "50 00", "50 00 02 00 01", "50 00 fe 00 01", "50 00 00 01", "50 ff ff",
		"60", "60 10", "60 00", "60 ff 01", "60 10 00", "60 60 01", "60 60 10 01", "60 40 61 01", "60 40 61 00 01", "60 30 80 01", "60 11 01", "60 10 70 01", "60 ef 01",
		"40 ff 00 01", "40 80 00 01", "40 c3 00 01", "40 c0 80 00 01", "40 ed a0 80 00 01", "40 f4 90 80 80 00 01", "40 61 e2 82 00 01", "40 c3 00 ff a9 00 01", "60 40 fe 00 01 01", "60 10 60 40 c3 00 01 01 01",
	} {
		splitsNot(t, hexed(s), false)
		splitsNot(t, over(hexed(s)), true)
		if len(s) > 0 {
			decodesNot(t, hexed(s), nil, 0)
			decodesNot(t, append([]byte{0x10}, over(hexed(s))...), []bool{false, true}, 1)
		}
	}
}

func TestReadToTheLimits(t *testing.T) {
	many := slices.Repeat([]api.Value{null()}, 600)
	for at, x := range []struct {
		v  api.Value
		ok bool
	}{
		{text(strings.Repeat("a", 1000)), true},
		{text(strings.Repeat("a", 1001)), false},
		{text(strings.Repeat("\x00", 1000)), true},
		{text(strings.Repeat("\x00", 1001)), false},
		{text(strings.Repeat("\U0010ffff", 1000)), true},
		{text(strings.Repeat("\U0010ffff", 1000) + "a"), false},
		{text(strings.Repeat("\U0010ffff", 1001)), false},
		{text(strings.Repeat("é", 1001)), false},
		{text(strings.Repeat("a", 4000)), false},
		{octets(make([]byte, 4000)...), true},
		{octets(make([]byte, 4001)...), false},
		{octets(bytes.Repeat([]byte{1}, 4000)...), true},
		{octets(bytes.Repeat([]byte{255}, 4001)...), false},
		{octets(bytes.Repeat([]byte{7}, 1<<20)...), false},
		{list(octets(make([]byte, 4000)...), text(strings.Repeat("b", 1000))), true},
		{list(octets(make([]byte, 4000)...), text(strings.Repeat("b", 1001))), false},
		{inLists(8, null()), true},
		{inLists(9, null()), false},
		{inLists(8, list()), true},
		{inLists(9, list()), false},
		{list(null(), inLists(7, number(1)), list()), true},
		{list(null(), inLists(8, number(1)), list()), false},
		{inLists(1000, null()), false},
		{list(many[:511]...), true},
		{list(many[:512]...), false},
		{list(list(many[:255]...), list(many[:254]...)), true},
		{list(list(many[:255]...), list(many[:255]...)), false},
		{list(append([]api.Value{list(many[:509]...)}, null())...), true},
		{list(append([]api.Value{list(many[:509]...)}, null(), null())...), false},
	} {
		for _, down := range bothWays {
			b := append(oneOf(x.v, down), 1, 2)
			if !x.ok {
				splitsNot(t, b, down)
				decodesNot(t, append([]byte{0x21}, b...), []bool{false, down}, 1)
				continue
			}
			splits(t, b, down, x.v, []byte{1, 2})
			l, err, place := key.Decode(append([]byte{0x21}, b[:len(b)-2]...), []bool{false, down})
			if err != api.OK || place != 0 || !sameTuples(l, tuple(boolean(true), x.v)) {
				t.Errorf("value %d, falling %v: %v, %d", at, down, err, place)
			}
		}
	}
}

// The limits are each value's own: four great ones are a tuple.
func TestDecodeOfGreatTuples(t *testing.T) {
	many := list(slices.Repeat([]api.Value{null()}, 511)...)
	great := list(octets(bytes.Repeat([]byte{0, 255}, 2000)...), inLists(7, text(strings.Repeat("é", 1000))))
	l := tuple(great, many, great, many)
	for _, down := range [][]bool{nil, {true, true, false, true}} {
		b := tupleBytes(l, down)
		if got, err, at := key.Decode(b, down); err != api.OK || at != 0 || !sameTuples(got, l) {
			t.Errorf("%v, %d", err, at)
		}
		decodesNot(t, append(slices.Clone(b), 0x10), down, len(b))
		decodesNot(t, b[:len(b)-1], down, len(tupleBytes(l[:3], down)))
	}
}

// Bytes may go on far beyond every limit.
func TestGreatRubbish(t *testing.T) {
	for _, s := range []string{"60", "10", "61", "30", "00 ff", "60 01", "ff"} {
		much := bytes.Repeat(hexed(s), 1<<21)
		for _, mark := range []byte{0x60, 0x40, 0x50} {
			b := append([]byte{mark}, much...)
			if mark == 0x60 && s == "61" {
				b = append([]byte{0x60, 0x40}, much...)
			}
			splitsNot(t, b, false)
			splitsNot(t, over(b), true)
			decodesNot(t, b, nil, 0)
		}
	}
}

// allBytes are all bytes of up to that many, of a few that mean something.
func allBytes(signs []byte, longest int) [][]byte {
	out := [][]byte{nil}
	for from, n := 0, 0; n < longest; n++ {
		to := len(out)
		for _, b := range out[from:to] {
			for _, c := range signs {
				out = append(out, append(slices.Clone(b), c))
			}
		}
		from = to
	}
	return out
}

// smallValues are all values that have at most that many bytes, of those signs.
func smallValues(signs []byte, longest int) []api.Value {
	var out []api.Value
	add := func(v api.Value) {
		if len(bytesOf(v)) <= longest {
			out = append(out, v)
		}
	}
	add(null())
	add(boolean(false))
	add(boolean(true))
	for _, b := range allBytes(signs, longest-3) {
		add(octets(b...))
		if v := text(string(b)); value.Check(v) == api.OK {
			add(v)
		}
	}
	lists := [][]api.Value{nil}
	if longest < 2 {
		return out
	}
	inner := smallValues(signs, longest-2)
	for len(lists) > 0 {
		l := lists[0]
		lists = lists[1:]
		add(list(l...))
		for _, v := range inner {
			if more := append(slices.Clone(l), v); len(bytesOf(list(more...))) <= longest {
				lists = append(lists, more)
			}
		}
	}
	return out
}

// Of all bytes of a few signs: what begins with a value's bytes is split there, and nothing else.
func TestSplitOfAllBytes(t *testing.T) {
	const longest = 6
	signs := hexed("00 01 10 21 40 50 60 ff")
	known := map[string]api.Value{}
	for _, v := range smallValues(signs, longest) {
		b := string(bytesOf(v))
		if old, twice := known[b]; twice {
			t.Fatalf("%x: %v and %v", b, old, v)
		}
		known[b] = v
	}
	for _, b := range allBytes(signs, longest) {
		size := 0
		for n := range len(b) + 1 {
			if _, ok := known[string(b[:n])]; ok {
				size = n
				break
			}
		}
		v, rest, err := key.Split(b, false)
		if size == 0 && (err != api.ErrKeyForm || v.Kind != 0 || len(rest) != 0) {
			t.Fatalf("%x: %v, %x, %v", b, v, rest, err)
		}
		if size > 0 && (err != api.OK || !value.Same(v, known[string(b[:size])]) || !bytes.Equal(rest, b[size:])) {
			t.Fatalf("%x: %v, %x, %v", b, v, rest, err)
		}
	}
}

// decodesOnce looks that b is refused, or is just what its tuple is written as; a place that is told is where the tuple ahead of it ends.
func decodesOnce(t *testing.T, b []byte, down []bool) bool {
	t.Helper()
	l, err, at := key.Decode(b, down)
	if err == api.OK {
		if at != 0 || len(l) > api.MaxTuple || !bytes.Equal(tupleBytes(l, down), b) {
			t.Fatalf("%x, down %v: %v, %d", b, down, l, at)
		}
		for _, v := range l {
			if value.Check(v) != api.OK {
				t.Fatalf("%x, down %v: %v", b, down, v)
			}
		}
		return true
	}
	if err != api.ErrKeyForm || len(l) != 0 || at < 0 || at >= len(b) {
		t.Fatalf("%x, down %v: %v, %v, %d", b, down, l, err, at)
	}
	ahead, err, _ := key.Decode(b[:at], down)
	if err != api.OK {
		t.Fatalf("%x, down %v, ahead of %d: %v", b, down, at, err)
	}
	if len(ahead) < api.MaxTuple {
		splitsNot(t, b[at:], len(ahead) < len(down) && down[len(ahead)])
	}
	return false
}

func TestOneByteChanged(t *testing.T) {
	for _, down := range [][]bool{nil, {true, false, true}} {
		for _, l := range [][]api.Value{
			{text("a\x00b"), number(-1), octets(0, 255)},
			{list(null(), list(text("é"), boolean(true)), octets()), boolean(false), list(), null()},
		} {
			b := tupleBytes(l, down)
			taken, refused := 0, 0
			for at := range b {
				for c := 1; c < 256; c++ {
					other := slices.Clone(b)
					other[at] ^= byte(c)
					if decodesOnce(t, other, down) {
						taken++
					} else {
						refused++
					}
				}
			}
			if taken < 100 || refused < 100 {
				t.Errorf("%d taken, %d refused", taken, refused)
			}
		}
	}
}

func TestAnyBytes(t *testing.T) {
	draw := rand.New(rand.NewSource(5))
	signs := hexed("00 01 10 20 21 30 40 50 60 61 fe ff")
	taken := 0
	for range 200000 {
		b := make([]byte, draw.Intn(12))
		down := []bool{draw.Intn(2) == 0, draw.Intn(2) == 0}
		for at := range b {
			b[at] = signs[draw.Intn(len(signs))] ^ byte(draw.Intn(2)*draw.Intn(2)*255)
		}
		if decodesOnce(t, b, down) {
			taken++
		}
	}
	if taken < 1000 {
		t.Errorf("%d taken", taken)
	}
}
