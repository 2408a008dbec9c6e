package path_test

import (
	"math/rand"
	"regexp"
	"slices"
	"strconv"
	"strings"
	"testing"

	"codicil/api"
	"codicil/path"
	"codicil/value"
)

func TestPlaces(t *testing.T) {
	for at := range 1000 {
		s := strconv.Itoa(at)
		takes(t, "["+s+"]", []api.Step{place(at)})
		takes(t, "a["+s+"].b", []api.Step{named("a"), place(at), named("b")})
		refuses(t, "["+s, len(s)+1)
		refuses(t, "["+s+".", len(s)+1)
		refuses(t, "["+s+"a]", len(s)+1)
		refuses(t, "["+s+"é]", len(s)+1)
		refuses(t, "["+s+" ]", len(s)+1)
		refuses(t, "a[0"+s+"]", 3)
		refuses(t, "a[00"+s+"]", 3)
	}
	for _, s := range []string{"1000", "1001", "9999", "10000", "99999999999999999999999", "1000x", "999 "} {
		refuses(t, "["+s+"]", 4)
		refuses(t, "é["+s+"]", 6)
		refuses(t, "["+s, 4)
	}
	for _, s := range []string{"[-1]", "[+1]", "[ 1]", "[a]", "[]", "[]]", "[[0]]", "[.1]", "[é]", "[\xff]", "[\u0661]", "[x1]", "['a']"} {
		refuses(t, s, 1)
		refuses(t, "[0].é"+s, 7)
	}
	for _, s := range []string{"[1.5]", "[1e2]", "[1_0]", "[0x1]", "[1 ]", "[1,2]", "[5\u0660]"} {
		refuses(t, s, 2)
	}
}

func TestNamesThatAreNone(t *testing.T) {
	for _, name := range noNames() {
		if strings.ContainsAny(name, ".[]") {
			continue
		}
		refuses(t, name, 0)
		refuses(t, name+".a", 0)
		refuses(t, name+"]", 0)
		refuses(t, "a."+name, 2)
		refuses(t, "é."+name+".a", 3)
		refuses(t, "a[0]."+name+"]", 5)
		refuses(t, "a[0]."+name+"[0]", 5)
		if name != "" {
			refuses(t, name+"[0]", 0)
			refuses(t, "a[0]"+name, 4)
		}
	}
	takes(t, "a\ufffd", steps("a\ufffd"))
	takes(t, "\u0080.\U0010ffff", steps("\u0080 \U0010ffff"))
}

func TestWhereAPathDoesNotGoOn(t *testing.T) {
	for s, at := range map[string]int{
		"]": 0, "[": 1, ".": 0, "..": 0, "a..b": 2, "a...": 2, "a]": 1, "a.b]": 3, "a].b": 1, "a.[0]": 2, "a.]": 2, "[0]]": 3, "[0].": 4, "[0]..a": 4, "[0].[0]": 4, "[0]a": 3, "[0]1": 3, "[0] ": 3,
		"[0]é": 3, "[0]\xff": 3, "a[0]b[1]": 4, "a[0][": 5, "a[0][]": 5, "a[b]": 2, "a[0": 3, "a[12": 4, "a[123": 5, "a[1]\x00": 4, "é[0]é": 5, "é]": 2, ".[": 0, "[.": 1, "[]": 1, "]a": 0, " ": 0, "a .b": 0, "a. b": 2,
	} {
		refuses(t, s, at)
	}
}

// What is cut off ends too early: at its length, or it is a path, or its last name is none.
func TestEveryBeginning(t *testing.T) {
	for s, wrong := range map[string]map[int]int{
		"a.b[0].c":            {0: 0, 2: 2, 4: 4, 5: 5, 7: 7},
		"[2][10][999]":        {0: 0, 1: 1, 2: 2, 4: 4, 5: 5, 6: 6, 8: 8, 9: 9, 10: 10, 11: 11},
		"é.ab[7]._":           {0: 0, 1: 0, 3: 3, 6: 6, 7: 7, 9: 9},
		"€1[0].\U0001f600[1]": {0: 0, 1: 0, 2: 0, 5: 5, 6: 6, 8: 8, 9: 8, 10: 8, 11: 8, 13: 13, 14: 14},
	} {
		for n := range len(s) + 1 {
			at, is := wrong[n]
			if is {
				refuses(t, s[:n], at)
			} else if l, err, at := path.Parse(s[:n]); err != api.OK || at != 0 || textOf(l) != s[:n] {
				t.Errorf("%q: %v, %v at %d", s[:n], l, err, at)
			}
		}
	}
}

var (
	placeForm = regexp.MustCompile(`^\[(0|[1-9][0-9]?[0-9]?)\]`)
	placeHead = regexp.MustCompile(`^\[(0|[1-9][0-9]?[0-9]?)?`)
)

// read is what Parse is to answer, step by step from patterns: the path, or the place of what is wrong.
func read(s string) ([]api.Step, int, bool) {
	var out []api.Step
	for at := 0; at < len(s) || at == 0; {
		rest := s[at:]
		if len(out) == 16 {
			return nil, at, false
		}
		if strings.HasPrefix(rest, "[") {
			found := placeForm.FindStringSubmatch(rest)
			if found == nil {
				return nil, at + len(placeHead.FindString(rest)), false
			}
			n, _ := strconv.Atoi(found[1])
			out = append(out, place(n))
			at += len(found[0])
			continue
		}
		if at > 0 {
			if rest[0] != '.' {
				return nil, at, false
			}
			at++
		}
		name := s[at:]
		if cut := strings.IndexAny(name, ".[]"); cut >= 0 {
			name = name[:cut]
		}
		if !value.Name(name) {
			return nil, at, false
		}
		out = append(out, named(name))
		at += len(name)
	}
	return out, 0, true
}

// asRead looks whether Parse answers as the patterns do, and Print gives the text again.
func asRead(t *testing.T, s string) {
	t.Helper()
	l, at, is := read(s)
	if is {
		takes(t, s, l)
	} else {
		refuses(t, s, at)
	}
}

func TestAllShortTexts(t *testing.T) {
	signs := []string{"a", "0", "1", ".", "[", "]", "é", "\xc3"}
	texts := []string{""}
	for range 6 {
		for _, s := range texts {
			asRead(t, s)
		}
		longer := make([]string, 0, len(texts)*len(signs))
		for _, s := range texts {
			for _, sign := range signs {
				longer = append(longer, s+sign)
			}
		}
		texts = longer
	}
}

func TestAllShortTextsOfBytes(t *testing.T) {
	for a := range 256 {
		asRead(t, string([]byte{byte(a)}))
		asRead(t, "a["+string([]byte{byte(a)}))
		asRead(t, "a[1"+string([]byte{byte(a)}))
		asRead(t, "a[1]"+string([]byte{byte(a)})+"b")
		for b := range 256 {
			asRead(t, string([]byte{byte(a), byte(b)}))
			asRead(t, "é."+string([]byte{byte(a), byte(b)})+"[0]")
		}
	}
}

// One byte of a path's text, changed, left out or doubled.
func TestPathsWithOneByteChanged(t *testing.T) {
	for _, s := range []string{"a.b[0].c", "[100][0][999]._id", "é.€[10].\U0001f600", strings.Repeat("a.", 15) + "b", strings.Repeat("[1]", 16)} {
		for at := range len(s) {
			for c := range 256 {
				asRead(t, s[:at]+string([]byte{byte(c)})+s[at+1:])
				asRead(t, s[:at]+string([]byte{byte(c)})+s[at:])
			}
			asRead(t, s[:at]+s[at+1:])
		}
	}
}

func TestManyPaths(t *testing.T) {
	r := rand.New(rand.NewSource(6))
	pieces := []string{"a", "b1", "_", "é", "€uro", "\U0001f600", strings.Repeat("x", 31), "[0]", "[7]", "[42]", "[999]", "[1000]", "[01]", ".", ".", "..", "[", "]", "1", " ", "\xff"}
	for range 20000 {
		s := ""
		for range 1 + r.Intn(20) {
			// Mostly right ones, so that long texts are met too.
			if k := r.Intn(30); k < len(pieces) && r.Intn(8) == 0 {
				s += pieces[k]
				continue
			}
			s += []string{".a", ".é", "[0]", "[31]", ".b_9"}[r.Intn(5)]
		}
		asRead(t, s)
		asRead(t, strings.TrimPrefix(s, "."))
	}
}

func TestParseOfPrint(t *testing.T) {
	r := rand.New(rand.NewSource(60))
	names := []string{"a", "_", "Z9", "é", "\U0010ffff", strings.Repeat("é", 32)}
	for range 5000 {
		var l []api.Step
		for range 1 + r.Intn(16) {
			if r.Intn(2) == 0 {
				l = append(l, place(r.Intn(1000)))
			} else {
				l = append(l, named(names[r.Intn(len(names))]))
			}
		}
		s, err := path.Print(l)
		if err != api.OK || s != textOf(l) {
			t.Fatalf("%v: %q, %v", l, s, err)
		}
		if again, err, at := path.Parse(s); err != api.OK || at != 0 || !slices.Equal(again, l) {
			t.Fatalf("%q: %v, %v at %d", s, again, err, at)
		}
	}
}

func TestGreatTexts(t *testing.T) {
	const n = 1 << 22
	refuses(t, strings.Repeat("a", n), 0)
	refuses(t, strings.Repeat("\xff", n), 0)
	refuses(t, "a."+strings.Repeat("é", n), 2)
	refuses(t, "a["+strings.Repeat("0", n), 3)
	refuses(t, "a["+strings.Repeat("1", n), 5)
	refuses(t, "a["+strings.Repeat("[", n), 2)
	refuses(t, strings.Repeat("[0]", n), 48)
	refuses(t, strings.Repeat(".", n), 0)
	refuses(t, strings.Repeat("a.", n), 31)
}
