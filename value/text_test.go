package value_test

import (
	"math"
	"math/rand"
	"strings"
	"testing"

	"codicil/api"
	"codicil/value"
)

func TestExamples(t *testing.T) {
	prints := []struct {
		v    api.Value
		want string
	}{
		{doc(field("a", number(1)), field("b", list(boolean(true), null()))), `{a: 1, b: [true, null]}`},
		{text("é\n\x01"), `"é\n\u{1}"`},
		{octets(0x0a, 0xff), `x'0aff'`},
	}
	for _, x := range prints {
		if got, err := value.Print(x.v); got != x.want || err != api.OK {
			t.Errorf("%s, %v, not %s", got, err, x.want)
		}
	}
	takes(t, ` {b : x'0A', a:-5 } `, doc(field("a", number(-5)), field("b", octets(0x0a))))
	for _, x := range []refusal{
		{`{a: 1, a: 2}`, api.ErrValueForm, 7}, {`[1,]`, api.ErrValueForm, 3}, {`"a`, api.ErrValueForm, 2},
		{`01`, api.ErrValueForm, 1}, {`9223372036854775808`, api.ErrValueLong, 0}, {``, api.ErrValueForm, 0},
	} {
		refuses(t, x)
	}
	if value.Cmp(null(), boolean(false)) != -1 || value.Cmp(list(number(1)), list(number(1), number(0))) != -1 || value.Cmp(doc(field("a", number(2))), doc(field("b", number(1)))) != -1 {
		t.Error("Cmp")
	}
	if value.Check(doc(field("b", null()), field("a", null()))) != api.ErrValueForm {
		t.Error("Check")
	}
	if value.Name("1a") || value.Name("") || !value.Name("é1") {
		t.Error("Name")
	}
}

type refusal struct {
	s   string
	err api.Errno
	at  int
}

func refuses(t *testing.T, x refusal) {
	t.Helper()
	if v, err, at := value.Parse(x.s); err != x.err || at != x.at || !same(v, api.Value{}) {
		t.Errorf("%.60q: %s, %v at %d, not %v at %d", x.s, shown(v), err, at, x.err, x.at)
	}
}

func takes(t *testing.T, s string, want api.Value) {
	t.Helper()
	if v, err, at := value.Parse(s); err != api.OK || at != 0 || !same(v, want) {
		t.Errorf("%.60q: %.200s, %v at %d, not %.200s", s, shown(v), err, at, shown(want))
	}
}

func TestPrint(t *testing.T) {
	for _, x := range []struct {
		v    api.Value
		want string
	}{
		{null(), "null"}, {boolean(true), "true"}, {boolean(false), "false"},
		{number(0), "0"}, {number(-1), "-1"}, {number(10), "10"}, {number(math.MaxInt64), "9223372036854775807"}, {number(math.MinInt64), "-9223372036854775808"},
		{text(""), `""`}, {text("a'b"), `"a'b"`}, {text("\u0080\ufffd\U0010ffff"), "\"\u0080\ufffd\U0010ffff\""}, {text("\\n"), `"\\n"`},
		{octets(), "x''"}, {octets(0), "x'00'"}, {octets(0x1f, 0xa0, 9), "x'1fa009'"},
		{list(), "[]"}, {list(null()), "[null]"}, {list(list(), list(number(1), number(2)), doc()), "[[], [1, 2], {}]"},
		{doc(), "{}"}, {doc(field("_id", text("x"))), `{_id: "x"}`}, {doc(field("A", doc(field("b", null()))), field("é", list())), "{A: {b: null}, é: []}"},
	} {
		if got, err := value.Print(x.v); got != x.want || err != api.OK {
			t.Errorf("%s, %v, not %s", got, err, x.want)
		}
		takes(t, x.want, x.v)
	}
}

func TestPrintOfEverySign(t *testing.T) {
	other := map[rune]string{'"': `\"`, '\\': `\\`, '\n': `\n`, '\r': `\r`, '\t': `\t`, 0: `\u{0}`, 0x0b: `\u{b}`, 0x10: `\u{10}`, 0x1f: `\u{1f}`, 0x7f: `\u{7f}`}
	for r := range rune(0x250) {
		want := other[r]
		if want == "" {
			want = string(r)
			if r < 0x20 {
				want = `\u{` + hexOf(uint64(r)) + "}"
			}
		}
		want = `"a` + want + `b"`
		v := text("a" + string(r) + "b")
		if got, err := value.Print(v); got != want || err != api.OK {
			t.Errorf("%x: %s", r, got)
		}
		takes(t, want, v)
	}
}

func TestBlanks(t *testing.T) {
	want := doc(field("a", list(number(1), text(" x "), octets(1))), field("b", doc()), field("c", list()), field("d", boolean(true)))
	tokens := []string{"", "{", "a", ":", "[", "1", ",", `" x "`, ",", "x'01'", "]", ",", "b", ":", "{", "}", ",", "c", ":", "[", "]", ",", "d", ":", "true", "}", ""}
	takes(t, strings.Join(tokens, ""), want)
	for _, blank := range []string{" ", "\t", "\n", "\r", " \t\n\r\r\n  "} {
		takes(t, strings.Join(tokens, blank), want)
		for at := 1; at < len(tokens); at++ {
			takes(t, strings.Join(tokens[:at], "")+blank+strings.Join(tokens[at:], ""), want)
		}
	}
	for at := 1; at < len(tokens); at++ {
		ahead := strings.Join(tokens[:at], "")
		for _, no := range []string{"\v", "\f", "\x00", "\b", "\x7f"} {
			v, err, place := value.Parse(ahead + no + strings.Join(tokens[at:], ""))
			if err != api.ErrValueForm || place > len(ahead) || place < len(ahead)-1 || !same(v, api.Value{}) {
				t.Errorf("%q behind %q: %v at %d", no, ahead, err, place)
			}
		}
	}
	for _, x := range []refusal{{"- 5", api.ErrValueForm, 1}, {"1 2", api.ErrValueForm, 2}, {"x '00'", api.ErrValueForm, 1}, {"x'0 0'", api.ErrValueForm, 3}, {"x'00 '", api.ErrValueForm, 4}, {"x' 00'", api.ErrValueForm, 2}, {"nu ll", api.ErrValueForm, 2}, {"\"a\nb\"", api.ErrValueForm, 2}, {"\"\\ n\"", api.ErrValueForm, 2}, {"\"\\u {1}\"", api.ErrValueForm, 3}, {"\"\\u{ 1}\"", api.ErrValueForm, 4}, {"\"\\u{1 }\"", api.ErrValueForm, 5}, {"{a b: 1}", api.ErrValueForm, 3}, {" ", api.ErrValueForm, 1}, {" \n", api.ErrValueForm, 2}} {
		refuses(t, x)
	}
}

func TestNumbers(t *testing.T) {
	for s, n := range map[string]int64{"0": 0, "-0": 0, "7": 7, "-7": -7, "10": 10, "-10": -10, "1234567890": 1234567890, "9223372036854775807": math.MaxInt64, "-9223372036854775808": math.MinInt64, "9223372036854775806": math.MaxInt64 - 1} {
		takes(t, s, number(n))
		takes(t, "["+s+"]", list(number(n)))
	}
	for _, x := range []refusal{
		{"9223372036854775808", api.ErrValueLong, 0}, {"-9223372036854775809", api.ErrValueLong, 0}, {"18446744073709551616", api.ErrValueLong, 0}, {"1" + strings.Repeat("0", 60000), api.ErrValueLong, 0},
		{"[9223372036854775808]", api.ErrValueLong, 1}, {"[0, -9223372036854775809", api.ErrValueLong, 4}, {"9223372036854775808x", api.ErrValueLong, 0}, {"{a: 9223372036854775808", api.ErrValueLong, 4},
		{"01", api.ErrValueForm, 1}, {"-01", api.ErrValueForm, 2}, {"00", api.ErrValueForm, 1}, {"[01]", api.ErrValueForm, 2}, {"-", api.ErrValueForm, 1}, {"--1", api.ErrValueForm, 1}, {"+1", api.ErrValueForm, 0}, {"-a", api.ErrValueForm, 1}, {"1a", api.ErrValueForm, 1}, {"1.0", api.ErrValueForm, 1}, {"1e3", api.ErrValueForm, 1}, {"0x1", api.ErrValueForm, 1}, {"1_0", api.ErrValueForm, 1}, {".5", api.ErrValueForm, 0}, {"1-", api.ErrValueForm, 1}, {"[-]", api.ErrValueForm, 2},
	} {
		refuses(t, x)
	}
}

func TestWords(t *testing.T) {
	for _, word := range []string{"null", "true", "false"} {
		for at := range word {
			refuses(t, refusal{word[:at], api.ErrValueForm, at})
			refuses(t, refusal{word[:at] + "X" + word[at+1:], api.ErrValueForm, at})
			refuses(t, refusal{"[1," + word[:at] + "]", api.ErrValueForm, at + 3})
		}
		refuses(t, refusal{word + "x", api.ErrValueForm, len(word)})
		refuses(t, refusal{word + " " + word, api.ErrValueForm, len(word) + 1})
		refuses(t, refusal{strings.ToUpper(word), api.ErrValueForm, 0})
	}
	for c := range 256 {
		s := string([]byte{byte(c)})
		v, err, at := value.Parse(s)
		switch {
		case c >= '0' && c <= '9':
			takes(t, s, number(int64(c-'0')))
		case strings.Contains("-\"[{xntf \t\n\r", s):
			refuses(t, refusal{s, api.ErrValueForm, 1})
		default:
			if err != api.ErrValueForm || at != 0 || !same(v, api.Value{}) {
				t.Errorf("byte %x: %v at %d", c, err, at)
			}
		}
	}
}

func TestBytes(t *testing.T) {
	for c := range 256 {
		small := "x'" + string("0123456789abcdef"[c>>4]) + string("0123456789abcdef"[c&15]) + "'"
		takes(t, small, octets(byte(c)))
		takes(t, "x'"+strings.ToUpper(small[2:]), octets(byte(c)))
	}
	takes(t, "x'aAbBcCdDeEfF'", octets(0xaa, 0xbb, 0xcc, 0xdd, 0xee, 0xff))
	takes(t, "x'"+strings.Repeat("00", 4000)+"'", octets(make([]byte, 4000)...))
	for _, x := range []refusal{
		{"x", api.ErrValueForm, 1}, {"x'", api.ErrValueForm, 2}, {"x'0", api.ErrValueForm, 3}, {"x'00", api.ErrValueForm, 4}, {"x'0'", api.ErrValueForm, 3}, {"x'000'", api.ErrValueForm, 5},
		{"x'g0'", api.ErrValueForm, 2}, {"x'0g'", api.ErrValueForm, 3}, {"x'0G", api.ErrValueForm, 3}, {"x\"00\"", api.ErrValueForm, 1}, {"X'00'", api.ErrValueForm, 0}, {"x'00\"", api.ErrValueForm, 4}, {"x'/0'", api.ErrValueForm, 2}, {"x':0'", api.ErrValueForm, 2}, {"x'@0'", api.ErrValueForm, 2}, {"x'`0'", api.ErrValueForm, 2},
		{"x'" + strings.Repeat("00", 4001) + "'", api.ErrValueLong, 0}, {"[ x'" + strings.Repeat("ab", 4001) + "'", api.ErrValueLong, 2},
		{"x'" + strings.Repeat("00", 4001), api.ErrValueForm, 8004}, {"x'" + strings.Repeat("00", 4001) + "g", api.ErrValueForm, 8004}, {"x'" + strings.Repeat("00", 4001) + "'x", api.ErrValueLong, 0},
	} {
		refuses(t, x)
	}
}

func TestEscapes(t *testing.T) {
	for s, want := range map[string]string{
		`\"`: "\"", `\\`: "\\", `\n`: "\n", `\r`: "\r", `\t`: "\t", `\\n`: "\\n",
		`\u{0}`: "\x00", `\u{1}`: "\x01", `\u{000001}`: "\x01", `\u{61}`: "a", `\u{e9}`: "é", `\u{E9}`: "é", `\u{00e9}`: "é", `\u{d7ff}`: "\ud7ff", `\u{D7Ff}`: "\ud7ff", `\u{e000}`: "\ue000", `\u{fffd}`: "\ufffd", `\u{10ffff}`: "\U0010ffff", `\u{10FFFF}`: "\U0010ffff", `\u{22}`: "\"", `\u{5c}n`: "\\n", `\u{1}\u{2}x\n`: "\x01\x02x\n",
		"\x7f": "\x7f", " ": " ", "é'": "é'", "\ufffd": "\ufffd", "\U0010ffff": "\U0010ffff",
	} {
		takes(t, `"`+s+`"`, text(want))
		takes(t, `"a`+s+`é"`, text("a"+want+"é"))
	}
	for _, x := range []refusal{
		{`"\`, api.ErrValueForm, 2}, {`"\a"`, api.ErrValueForm, 2}, {`"\'"`, api.ErrValueForm, 2}, {`"\N"`, api.ErrValueForm, 2}, {`"\U{1}"`, api.ErrValueForm, 2}, {`"\/"`, api.ErrValueForm, 2}, {"\"\\\xff\"", api.ErrValueForm, 2}, {`"\é"`, api.ErrValueForm, 2},
		{`"\u`, api.ErrValueForm, 3}, {`"\u0041"`, api.ErrValueForm, 3}, {`"\u{`, api.ErrValueForm, 4}, {`"\u{}"`, api.ErrValueForm, 4}, {`"\u{g}"`, api.ErrValueForm, 4}, {`"\u{1`, api.ErrValueForm, 5}, {`"\u{1g}"`, api.ErrValueForm, 5}, {`"\u{1"`, api.ErrValueForm, 5},
		{`"\u{000000`, api.ErrValueForm, 10}, {`"\u{0000001}"`, api.ErrValueForm, 10}, {`"\u{1000000}"`, api.ErrValueForm, 10},
		{`"\u{d800}"`, api.ErrValueForm, 8}, {`"\u{DFFF}"`, api.ErrValueForm, 8}, {`"\u{00dabc}"`, api.ErrValueForm, 10}, {`"\u{110000}"`, api.ErrValueForm, 10}, {`"\u{ffffff}"`, api.ErrValueForm, 10}, {`"\u{d800`, api.ErrValueForm, 8}, {`"\u{d800x`, api.ErrValueForm, 8}, {`"\u{110000`, api.ErrValueForm, 10}, {`"\u{1100000`, api.ErrValueForm, 10}, {`"é\u{d800}"`, api.ErrValueForm, 10},
	} {
		refuses(t, x)
	}
}

func TestTextsWithinAndBeyond(t *testing.T) {
	for _, r := range []string{"a", "é", "\U0001f600", `\n`, `\u{1}`, `\u{00e9}`} {
		one, _, _ := value.Parse(`"` + r + `"`)
		takes(t, `"`+strings.Repeat(r, 1000)+`"`, text(strings.Repeat(one.Text, 1000)))
		long := `"` + strings.Repeat(r, 1001)
		refuses(t, refusal{long + `"`, api.ErrValueLong, 0})
		refuses(t, refusal{"[1, " + long + `"`, api.ErrValueLong, 4})
		refuses(t, refusal{long + `"x`, api.ErrValueLong, 0})
		refuses(t, refusal{long, api.ErrValueForm, len(long)})
		refuses(t, refusal{long + "\xff\"", api.ErrValueText, len(long)})
		refuses(t, refusal{long + "\x1f\"", api.ErrValueForm, len(long)})
		refuses(t, refusal{long + `\x"`, api.ErrValueForm, len(long) + 1})
	}
	for c := range byte(0x20) {
		refuses(t, refusal{"\"a" + string(rune(c)) + "\"", api.ErrValueForm, 2})
	}
}

func TestTornTexts(t *testing.T) {
	for _, torn := range []string{"\x80", "\xff", "\xc3", "\xc0\x80", "\xc1\xbf", "\xe2\x82", "\xe0\x80\x80", "\xed\xa0\x80", "\xed\xbf\xbf", "\xf0\x9f\x98", "\xf0\x80\x80\x80", "\xf4\x90\x80\x80", "\xf5\x80\x80\x80", "\xef\xbf"} {
		refuses(t, refusal{`"` + torn + `"`, api.ErrValueText, 1})
		refuses(t, refusal{`"` + torn, api.ErrValueText, 1})
		refuses(t, refusal{"\"é\ufffd\\n" + torn + `"`, api.ErrValueText, 8})
		refuses(t, refusal{`{a: "` + torn + `", a: 1`, api.ErrValueText, 5})
		refuses(t, refusal{torn, api.ErrValueForm, 0})
		refuses(t, refusal{`{` + torn + `: 1}`, api.ErrValueForm, 1})
		refuses(t, refusal{`"a"` + torn, api.ErrValueForm, 3})
	}
}

func TestListsAndDocuments(t *testing.T) {
	takes(t, "[[],{},[ ] ,{ }]", list(list(), doc(), list(), doc()))
	takes(t, "{c:1,a:2,b:3}", doc(field("a", number(2)), field("b", number(3)), field("c", number(1))))
	takes(t, "{b:1,a:{d:1,c:2},_:3,Z:4,é:5,aa:6}", doc(field("Z", number(4)), field("_", number(3)), field("a", doc(field("c", number(2)), field("d", number(1)))), field("aa", number(6)), field("b", number(1)), field("é", number(5))))
	takes(t, "{null:null,x:x'00',"+strings.Repeat("é", 32)+":1}", doc(field("null", null()), field("x", octets(0)), field(strings.Repeat("é", 32), number(1))))
	for _, x := range []refusal{
		{"[", api.ErrValueForm, 1}, {"[1", api.ErrValueForm, 2}, {"[1,", api.ErrValueForm, 3}, {"[1 2]", api.ErrValueForm, 3}, {"[,1]", api.ErrValueForm, 1}, {"[1,,2]", api.ErrValueForm, 3}, {"[1;2]", api.ErrValueForm, 2}, {"[1}", api.ErrValueForm, 2}, {"]", api.ErrValueForm, 0}, {"[]]", api.ErrValueForm, 2}, {"[] []", api.ErrValueForm, 3}, {"[1: 2]", api.ErrValueForm, 2}, {"[1, ]", api.ErrValueForm, 4},
		{"{", api.ErrValueForm, 1}, {"{ ", api.ErrValueForm, 2}, {"{a", api.ErrValueForm, 2}, {"{a:", api.ErrValueForm, 3}, {"{a: ", api.ErrValueForm, 4}, {"{a:1", api.ErrValueForm, 4}, {"{a:1,", api.ErrValueForm, 5}, {"{a:1,}", api.ErrValueForm, 5}, {"{a:1, }", api.ErrValueForm, 6}, {"{,}", api.ErrValueForm, 1}, {"{a}", api.ErrValueForm, 2}, {"{a,b}", api.ErrValueForm, 2}, {"{a:}", api.ErrValueForm, 3}, {"{a 1}", api.ErrValueForm, 3}, {"{a:1]", api.ErrValueForm, 4}, {"{a:1 b:2}", api.ErrValueForm, 5}, {"}", api.ErrValueForm, 0}, {"{}}", api.ErrValueForm, 2}, {"{:1}", api.ErrValueForm, 1}, {"{[]:1}", api.ErrValueForm, 1}, {"{{}:1}", api.ErrValueForm, 1}, {"{a::1}", api.ErrValueForm, 3}, {"{a:b}", api.ErrValueForm, 3},
		{`{"a": 1}`, api.ErrValueForm, 1}, {`{'a': 1}`, api.ErrValueForm, 1}, {`{a": 1}`, api.ErrValueForm, 2}, {`{x'00': 1}`, api.ErrValueForm, 2}, {`{a[: 1}`, api.ErrValueForm, 2}, {`{a{: 1}`, api.ErrValueForm, 2}, {`{a]: 1}`, api.ErrValueForm, 2},
	} {
		refuses(t, x)
	}
}

func TestNamesInTexts(t *testing.T) {
	long := strings.Repeat("a", 33)
	for _, x := range []refusal{
		{"{1: 1}", api.ErrValueForm, 1}, {"{ 1a: 1}", api.ErrValueForm, 2}, {"{a-b: 1}", api.ErrValueForm, 1}, {"{a.b", api.ErrValueForm, 1}, {"{1", api.ErrValueForm, 1}, {"{" + long, api.ErrValueForm, 1}, {"{a: 1, " + long + ": 1}", api.ErrValueForm, 7}, {"{a\x00: 1}", api.ErrValueForm, 1}, {"{a\v: 1}", api.ErrValueForm, 1}, {"{a\\n: 1}", api.ErrValueForm, 1}, {"{a\u00e9\xc3: 1}", api.ErrValueForm, 1}, {"{-1: 1}", api.ErrValueForm, 1},
		{"{a: 1, a", api.ErrValueForm, 7}, {"{a: 1, a: x}", api.ErrValueForm, 7}, {"{b: 1, a: 2, b : 3}", api.ErrValueForm, 13}, {"{b: 1, c: 2, a: 3, c: 3}", api.ErrValueForm, 19}, {"{a: 1, b: {b: 1, b: 2}}", api.ErrValueForm, 17}, {"{é: 1, é: 2}", api.ErrValueForm, 8},
		{"{a: 9223372036854775808, a: 1}", api.ErrValueLong, 4}, {"{a: 1, a: 9223372036854775808}", api.ErrValueForm, 7},
	} {
		refuses(t, x)
	}
	takes(t, "{a: {a: {a: 1}}, b: {a: 1}}", doc(field("a", doc(field("a", doc(field("a", number(1)))))), field("b", doc(field("a", number(1))))))
	takes(t, "{a: 1, aa: 2, A: 3}", doc(field("A", number(3)), field("a", number(1)), field("aa", number(2))))
}

func TestDeepTexts(t *testing.T) {
	eight := strings.Repeat("[", 8)
	takes(t, eight+strings.Repeat("]", 8), deepList(8))
	takes(t, strings.Repeat("[", 7)+"1, {}"+strings.Repeat("]", 7), func() api.Value {
		v := list(number(1), doc())
		for range 6 {
			v = list(v)
		}
		return v
	}())
	for _, s := range []string{"[", "{", "n", "null", "nx", "t", "f", "x", "-", "0", "9", "\"", "\"\xff"} {
		refuses(t, refusal{eight + s, api.ErrValueDeep, 8})
		refuses(t, refusal{eight + " \n" + s, api.ErrValueDeep, 10})
		refuses(t, refusal{strings.Repeat("{a:", 8) + s, api.ErrValueDeep, 24})
		refuses(t, refusal{strings.Repeat("[{a:", 4) + s, api.ErrValueDeep, 16})
	}
	for _, s := range []string{"", "!", "}", ",", ":", "'", "X", "a", "+", "\xff"} {
		refuses(t, refusal{eight + s, api.ErrValueForm, 8})
	}
	refuses(t, refusal{strings.Repeat("{a:", 8) + "}", api.ErrValueForm, 24})
}

func deepList(n int) api.Value {
	v := list()
	for range n - 1 {
		v = list(v)
	}
	return v
}

func TestManyInTexts(t *testing.T) {
	ones := strings.Repeat("1,", 511)
	if v, err, at := value.Parse("[" + ones[:len(ones)-1] + "]"); err != api.OK || at != 0 || len(v.List) != 511 {
		t.Errorf("512 values: %v at %d", err, at)
	}
	for _, s := range []string{"1", "[", "{", "n", "nx", "x", "-", "\"\xff", "9223372036854775808"} {
		refuses(t, refusal{"[" + ones + s, api.ErrValueMany, 1 + len(ones)})
	}
	for _, s := range []string{"", "]", "!", "\xff"} {
		refuses(t, refusal{"[" + ones + s, api.ErrValueForm, 1 + len(ones)})
	}
	halves := "[[" + ones[:2*255-1] + "], {a: [" + ones[:2*252-1] + "]}"
	takes512, err, at := value.Parse(halves + ", 1]")
	if err != api.OK || at != 0 || len(takes512.List) != 3 {
		t.Errorf("512 values in lists: %v at %d", err, at)
	}
	refuses(t, refusal{halves + ", 1, 2]", api.ErrValueMany, len(halves) + 5})
	// The 513th of all, and the ninth in one another: deep comes first.
	deep := "[" + ones[:2*504] + strings.Repeat("[", 7)
	refuses(t, refusal{deep + "1", api.ErrValueDeep, len(deep)})
	fields := "{"
	for i := range 511 {
		fields += "n" + string(rune(0x1000+i)) + ":1,"
	}
	if v, err, at := value.Parse(fields[:len(fields)-1] + "}"); err != api.OK || at != 0 || value.Check(v) != api.OK {
		t.Errorf("511 fields: %v at %d", err, at)
	}
	refuses(t, refusal{fields + "a:1}", api.ErrValueMany, len(fields) + 2})
}

func TestLongTexts(t *testing.T) {
	pad := strings.Repeat(" ", 65535)
	takes(t, pad+"1", number(1))
	takes(t, "1"+pad, number(1))
	refuses(t, refusal{pad + " ", api.ErrValueForm, 65536})
	refuses(t, refusal{pad + "!", api.ErrValueForm, 65535})
	refuses(t, refusal{pad + "1 ", api.ErrValueLong, 0})
	refuses(t, refusal{"!" + pad + " ", api.ErrValueLong, 0})
	refuses(t, refusal{strings.Repeat("[", 65537), api.ErrValueLong, 0})
}

// A text that is cut off ends too early, at its length; but where a name, or a rune, or a number stands there as it was cut off.
func TestCutTexts(t *testing.T) {
	s := ` { b : [ 1 , -20 , true , null ] , a : "x\n\u{e9}y" , c : x'0aFf' , d : { } , e : false } `
	if _, err, at := value.Parse(s); err != api.OK || at != 0 {
		t.Fatal(err, at)
	}
	for n := range len(s) - 1 {
		refuses(t, refusal{s[:n], api.ErrValueForm, n})
	}
	whole := `["é日😀"]`
	for n, want := range []refusal{{"", api.ErrValueForm, 0}, {"", api.ErrValueForm, 1}, {"", api.ErrValueForm, 2}, {"", api.ErrValueText, 2}, {"", api.ErrValueForm, 4}, {"", api.ErrValueText, 4}, {"", api.ErrValueText, 4}, {"", api.ErrValueForm, 7}, {"", api.ErrValueText, 7}, {"", api.ErrValueText, 7}, {"", api.ErrValueText, 7}, {"", api.ErrValueForm, 11}, {"", api.ErrValueForm, 12}} {
		refuses(t, refusal{whole[:n], want.err, want.at})
	}
	takes(t, whole, list(text("é日😀")))
}

func TestThereAndBack(t *testing.T) {
	draw := rand.New(rand.NewSource(7))
	for range 3000 {
		v := drawn(draw, 4, false)
		s, err := value.Print(v)
		if err != api.OK {
			t.Fatalf("%s: %v", shown(v), err)
		}
		w, err, at := value.Parse(s)
		if err != api.OK || at != 0 || !same(v, w) {
			t.Fatalf("%s: %s, %v at %d", s, shown(w), err, at)
		}
		if again, _ := value.Print(w); again != s {
			t.Fatalf("%s, then %s", s, again)
		}
	}
}

// Over all short texts of a few signs: a refused byte is refused whatever stands behind it, what stands ahead of it goes on, and what is taken is printed and taken again.
func TestAllShortTexts(t *testing.T) {
	for _, signs := range []string{"[]{}:, a1", "\"\\nu{}0d\x1f\xc3\xa9", "x'0aAg,[] ", "-01 9n.[]"} {
		shortTexts(t, signs, 5, func(s string) {
			v, err, at := value.Parse(s)
			if err == api.OK {
				again, e := value.Print(v)
				w, f, _ := value.Parse(again)
				if at != 0 || e != api.OK || f != api.OK || !same(v, w) || value.Check(v) != api.OK {
					t.Errorf("%q is taken as %q", s, again)
				}
				return
			}
			if !same(v, api.Value{}) || at < 0 || at > len(s) || err != api.ErrValueForm && err != api.ErrValueText {
				t.Errorf("%q: %v at %d", s, err, at)
			}
			if e, p := ended(s[:at]); e && p != at {
				t.Fatalf("%q: refused at %d, but what stands ahead of that at %d", s, at, p)
			}
			// A name is refused as a whole, wherever it ends.
			if at < len(s) && err == api.ErrValueForm && (s[0] == '"' || !strings.Contains(s, "{")) {
				for _, tail := range []string{"", "0", "]", "}", "\"", "'", "}\"]", "00'"} {
					if _, e, p := value.Parse(s[:at+1] + tail); e != err || p != at {
						t.Fatalf("%q: refused at %d, but with %q behind it at %d", s, at, tail, p)
					}
				}
			}
		})
	}
}

// ended says where s, if it is refused, is.
func ended(s string) (bool, int) {
	_, err, at := value.Parse(s)
	return err != api.OK, at
}

func shortTexts(t *testing.T, signs string, length int, look func(string)) {
	t.Helper()
	s := make([]byte, length)
	var fill func(at int)
	fill = func(at int) {
		look(string(s[:at]))
		if at == length {
			return
		}
		for i := range len(signs) {
			s[at] = signs[i]
			fill(at + 1)
		}
	}
	fill(0)
}

func TestParseKeepsToItself(t *testing.T) {
	const s = "{a: [1, x'010203', [x'04'], {x: x'05'}], b: {c: \"é\", d: [null, true]}, e: x'0607', _: [1, 2, 3, 4, 5]}"
	one, _, _ := value.Parse(s)
	two, _, _ := value.Parse(s)
	want := shown(two)
	spoil(&one)
	if shown(two) != want {
		t.Error("two values share memory")
	}
	for _, v := range value.All(two) {
		if len(v.Bytes) != cap(v.Bytes) || len(v.List) != cap(v.List) || len(v.Fields) != cap(v.Fields) {
			t.Error("room behind a list")
		}
	}
	if three, _, _ := value.Parse(s); shown(three) != want {
		t.Error("a value of another text")
	}
}
