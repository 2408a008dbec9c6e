package occ

import (
	"bytes"

	"codicil/api"
	"codicil/code"
)

// The first bytes of keys that no transaction puts itself.
const (
	ofState = 0
	ofFeed  = 4
)

// stateKey has the number of the last transaction that is in the store.
const stateKey = "\x00seq"

func isNoKey(key []byte) bool { return len(key) == 0 || len(key) > api.MaxKey }

// stateOf is the state's key's value.
func stateOf(number uint64) []byte {
	w := code.New()
	w.U64(number)
	return w.Bytes()
}

// noteKey is where the feed has one of a transaction's notes.
func noteKey(number uint64, at int) []byte {
	w := code.New()
	w.U8(ofFeed)
	w.U64(number)
	w.U16(uint16(at))
	return w.Bytes()
}

// justAbove is the least key above another one.
func justAbove(key []byte) []byte { return append(bytes.Clone(key), 0) }

func hasKeys(x api.Span) bool { return x.Open || bytes.Compare(x.From, x.To) < 0 }

func lies(key []byte, x api.Span) bool {
	return bytes.Compare(x.From, key) <= 0 && (x.Open || bytes.Compare(key, x.To) < 0)
}
