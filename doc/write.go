package doc

import (
	"codicil/api"
	"codicil/code"
)

// The first byte of a value's bytes.
const (
	tagNull  = 1
	tagFalse = 2
	tagTrue  = 3
	tagInt   = 4
	tagText  = 5
	tagBytes = 6
	tagList  = 7
	tagDoc   = 8
)

// written has the bytes of v, which value.Check takes.
func written(v api.Value) *code.Writer {
	w := code.New()
	var part func(v api.Value)
	part = func(v api.Value) { write(w, v, part) }
	part(v)
	return w
}

// write puts what v has of its own; each value right below it goes to part.
func write(w *code.Writer, v api.Value, part func(v api.Value)) {
	switch v.Kind {
	case api.KindNull:
		w.U8(tagNull)
	case api.KindBool:
		w.U8(truthTag(v.Bool))
	case api.KindInt:
		w.U8(tagInt)
		w.Signed(v.Int)
	case api.KindText:
		w.U8(tagText)
		w.Text(v.Text)
	case api.KindBytes:
		w.U8(tagBytes)
		w.Text(string(v.Bytes))
	case api.KindList:
		w.U8(tagList)
		w.Varint(uint64(len(v.List)))
		for _, below := range v.List {
			part(below)
		}
	case api.KindDoc:
		w.U8(tagDoc)
		w.Varint(uint64(len(v.Fields)))
		for _, f := range v.Fields {
			w.Text(f.Name)
			part(f.Value)
		}
	}
}

func truthTag(b bool) uint8 {
	if b {
		return tagTrue
	}
	return tagFalse
}
