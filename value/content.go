package value

import (
	"bytes"
	"cmp"
	"slices"
	"strings"

	"codicil/api"
)

// content is what a value has by its kind: each kind has a type of its own.
type content interface {
	// order compares it with another one of its type.
	order(other content) int
}

type (
	null     struct{}
	truth    bool
	number   int64
	text     string
	octets   []byte
	list     []api.Value
	document []api.Field
)

// inside is what v has by its kind. A kind that is none of the seven has nothing, as null.
func inside(v api.Value) content {
	switch v.Kind {
	case api.KindBool:
		return truth(v.Bool)
	case api.KindInt:
		return number(v.Int)
	case api.KindText:
		return text(v.Text)
	case api.KindBytes:
		return octets(v.Bytes)
	case api.KindList:
		return list(v.List)
	case api.KindDoc:
		return document(v.Fields)
	}
	return null{}
}

// outside is the value that has just that, of one of the seven kinds.
func outside(inner content) api.Value {
	switch c := inner.(type) {
	case truth:
		return api.Value{Kind: api.KindBool, Bool: bool(c)}
	case number:
		return api.Value{Kind: api.KindInt, Int: int64(c)}
	case text:
		return api.Value{Kind: api.KindText, Text: string(c)}
	case octets:
		return api.Value{Kind: api.KindBytes, Bytes: c}
	case list:
		return api.Value{Kind: api.KindList, List: c}
	case document:
		return api.Value{Kind: api.KindDoc, Fields: c}
	}
	return api.Value{Kind: api.KindNull}
}

func (null) order(content) int { return 0 }

func (a truth) order(other content) int {
	b := other.(truth)
	switch {
	case a == b:
		return 0
	case bool(b):
		return -1
	}
	return 1
}

func (a number) order(other content) int { return cmp.Compare(a, other.(number)) }

func (a text) order(other content) int { return strings.Compare(string(a), string(other.(text))) }

func (a octets) order(other content) int { return bytes.Compare(a, other.(octets)) }

func (a list) order(other content) int { return slices.CompareFunc(a, other.(list), Cmp) }

func (a document) order(other content) int {
	return slices.CompareFunc(a, other.(document), cmpFields)
}
