package buffer_test

import (
	"fmt"
	"slices"
	"strings"
	"testing"

	"codicil/api"
	"codicil/buffer"
)

// question is what was asked of what lies below.
type question struct {
	way  string
	from string
	in   bool
}

func (q question) String() string { return fmt.Sprintf("%q %v", q.from, q.in) }

// ground is what lies below, and what it was asked.
type ground struct {
	pairs map[string]string
	keys  []string // rising
	asked []question
	fails map[int]api.Errno // by which question, from 1 on
}

func newGround(pairs map[string]string) *ground {
	return &ground{pairs: pairs, keys: rising(pairs)}
}

// groundOf is one of some keys, each with a value that tells it.
func groundOf(keys ...string) *ground {
	pairs := map[string]string{}
	for _, key := range keys {
		pairs[key] = "below " + short(key)
	}
	return newGround(pairs)
}

func (g *ground) next(from []byte, in bool) (api.Pair, bool, api.Errno) {
	return g.tell(question{"next", string(from), in}, keyAfter)
}

func (g *ground) prev(from []byte, in bool) (api.Pair, bool, api.Errno) {
	return g.tell(question{"prev", string(from), in}, keyAhead)
}

// tell tells a pair beside an error, and beside false, which nobody is to look at.
func (g *ground) tell(q question, way func([]string, string, bool) (string, bool)) (api.Pair, bool, api.Errno) {
	g.asked = append(g.asked, q)
	key, is := way(g.keys, q.from, q.in)
	if err := g.fails[len(g.asked)]; err != api.OK {
		return api.Pair{Key: []byte("an error's"), Value: []byte("an error's")}, true, err
	}
	if !is {
		return api.Pair{Key: []byte(q.from + "nothing's"), Value: []byte("nothing's")}, false, api.OK
	}
	return api.Pair{Key: []byte(key), Value: []byte(g.pairs[key])}, true, api.OK
}

// seen is what lies below as it is changed.
func (g *ground) seen(all map[string]said) map[string]string {
	out := map[string]string{}
	for key, value := range g.pairs {
		out[key] = value
	}
	for key, x := range all {
		if x.gone {
			delete(out, key)
		} else {
			out[key] = x.value
		}
	}
	return out
}

// questions are those that the chapter names for Next, by its words.
func (g *ground) questions(all map[string]said, from string, in bool) []question {
	out := []question{{"next", from, in}}
	for {
		told, is := keyAfter(g.keys, from, in)
		if !is || !all[told].gone {
			return out
		}
		for key, x := range all {
			if !x.gone && (key > from || in && key == from) && key < told {
				return out
			}
		}
		from, in = told, false
		out = append(out, question{"next", from, in})
	}
}

// questionsBack are those of Prev.
func (g *ground) questionsBack(all map[string]said, from string, in bool) []question {
	out := []question{{"prev", from, in}}
	for {
		told, is := keyAhead(g.keys, from, in)
		if !is || !all[told].gone {
			return out
		}
		for key, x := range all {
			if !x.gone && (key < from || in && (key == from || from == "")) && key > told {
				return out
			}
		}
		from, in = told, false
		out = append(out, question{"prev", from, in})
	}
}

// side is one of the two ways through a buffer, with what a plain reckoning says of it.
type side struct {
	name      string
	call      func(b *buffer.Buffer, below func([]byte, bool) (api.Pair, bool, api.Errno), from []byte, in bool) (api.Pair, bool, api.Errno)
	below     func(g *ground) func([]byte, bool) (api.Pair, bool, api.Errno)
	key       func(keys []string, from string, in bool) (string, bool)
	questions func(g *ground, all map[string]said, from string, in bool) []question
}

func sides() []side {
	return []side{
		{"Next", buffer.Next, func(g *ground) func([]byte, bool) (api.Pair, bool, api.Errno) { return g.next }, keyAfter, (*ground).questions},
		{"Prev", buffer.Prev, func(g *ground) func([]byte, bool) (api.Pair, bool, api.Errno) { return g.prev }, keyAhead, (*ground).questionsBack},
	}
}

// view is a buffer over a ground.
type view struct {
	*twin
	ground *ground
}

func newView(t testing.TB, g *ground, l ...said) view {
	t.Helper()
	return view{newTwin(t, l...), g}
}

// tells holds what Next and Prev answer, and what they ask, against a plain reckoning, from each of these keys.
func (v view) tells(froms ...string) {
	v.Helper()
	all := v.plain.all()
	seen := v.ground.seen(all)
	keys := rising(seen)
	for _, s := range sides() {
		for _, from := range froms {
			for _, in := range []bool{false, true} {
				key, there := s.key(keys, from, in)
				v.ground.asked = nil
				got, is, err := s.call(v.buffer, s.below(v.ground), []byte(from), in)
				if !samePair(got, is, err, key, seen[key], there) {
					v.Fatalf("%s over %s: %s(%s, %v): %s, %v, %v", v, v.ground, s.name, short(from), in, shownPair(got), is, err)
				}
				if want := s.questions(v.ground, all, from, in); !slices.Equal(v.ground.asked, want) {
					v.Fatalf("%s over %s: %s(%s, %v) asked %v, not %v", v, v.ground, s.name, short(from), in, v.ground.asked, want)
				}
			}
		}
	}
}

// tellsAll asks from all keys there are, and from beside each.
func (v view) tellsAll() {
	v.Helper()
	froms := []string{""}
	for _, keys := range [][]string{v.ground.keys, rising(v.plain.all())} {
		for _, key := range keys {
			froms = append(froms, key, key+"\x00", key+"\xff")
			if key != "" {
				froms = append(froms, key[:len(key)-1])
			}
		}
	}
	v.tells(froms...)
}

// walks goes from end to end, both ways.
func (v view) walks() {
	v.Helper()
	seen := v.ground.seen(v.plain.all())
	keys := rising(seen)
	at := 0
	pair, is, err := buffer.Next(v.buffer, v.ground.next, nil, true)
	for ; is; pair, is, err = buffer.Next(v.buffer, v.ground.next, pair.Key, false) {
		if at >= len(keys) || !samePair(pair, is, err, keys[at], seen[keys[at]], true) {
			v.Fatalf("%s over %s: Next, the %d-th: %s, %v", v, v.ground, at, shownPair(pair), err)
		}
		at++
	}
	if at != len(keys) || !samePair(pair, is, err, "", "", false) {
		v.Fatalf("%s over %s: %d of %d keys, %s, %v", v, v.ground, at, len(keys), shownPair(pair), err)
	}
	pair, is, err = buffer.Prev(v.buffer, v.ground.prev, nil, true)
	for ; is; pair, is, err = buffer.Prev(v.buffer, v.ground.prev, pair.Key, false) {
		at--
		if at < 0 || !samePair(pair, is, err, keys[at], seen[keys[at]], true) {
			v.Fatalf("%s over %s: Prev, the %d-th: %s, %v", v, v.ground, at, shownPair(pair), err)
		}
	}
	if at != 0 || !samePair(pair, is, err, "", "", false) {
		v.Fatalf("%s over %s: %d keys are left, %s, %v", v, v.ground, at, shownPair(pair), err)
	}
}

// samePair says whether an answer without error is what it is to be; of nothing it is empty.
func samePair(got api.Pair, is bool, err api.Errno, key, value string, there bool) bool {
	if !there {
		key, value = "", ""
	}
	return string(got.Key) == key && string(got.Value) == value && is == there && err == api.OK
}

func shownPair(x api.Pair) string { return short(string(x.Key)) + " " + short(string(x.Value)) }

func (g *ground) String() string {
	var out []string
	for _, key := range g.keys[:min(12, len(g.keys))] {
		out = append(out, short(key))
	}
	return fmt.Sprint(len(g.keys), " keys [", strings.Join(out, " "), "]")
}
