package doc

import (
	"codicil/api"
	"codicil/code"
	"codicil/value"
)

// slot is where a value goes that is yet to be read.
type slot struct {
	name  *string // where a field's name goes, which stands ahead of its value; nil: it has none
	value *api.Value
}

// reader reads a value's bytes. What lists and documents still wait for stands in one row, not in calls in one another, so that bad bytes are left by one jump, however deep they are met.
type reader struct {
	*code.Reader
	slots []slot // the next one last
	parts uint64 // how many slots there have been in all
}

// whole is the value that all of b is. Behind an error the embedded reader reads noughts, which are no tag, and tells it at the end, so that fields need not be asked one by one.
func (r *reader) whole(b []byte) (api.Value, api.Errno) {
	var top api.Value
	if len(b) > api.MaxValue {
		goto bad
	}
	r.Reader, r.slots, r.parts = code.Read(b), []slot{{value: &top}}, 1
	for len(r.slots) > 0 {
		v := r.next()
		switch tag := r.U8(); tag {
		case tagNull:
			v.Kind = api.KindNull
		case tagFalse, tagTrue:
			v.Kind, v.Bool = api.KindBool, tag == tagTrue
		case tagInt:
			v.Kind, v.Int = api.KindInt, r.Signed()
		case tagText:
			v.Kind, v.Text = api.KindText, r.Text()
		case tagBytes:
			v.Kind, v.Bytes = api.KindBytes, []byte(r.Text())
		case tagList:
			n, ok := r.count()
			if !ok {
				goto bad
			}
			v.Kind, v.List = api.KindList, make([]api.Value, n)
			r.await(n, func(at int) slot { return slot{value: &v.List[at]} })
		case tagDoc:
			n, ok := r.count()
			if !ok {
				goto bad
			}
			v.Kind, v.Fields = api.KindDoc, make([]api.Field, n)
			r.await(n, func(at int) slot { return slot{&v.Fields[at].Name, &v.Fields[at].Value} })
		default:
			goto bad
		}
	}
	if r.End() != api.OK || value.Check(top) != api.OK {
		goto bad
	}
	return top, api.OK
bad:
	return api.Value{}, api.ErrDocForm
}

// next takes the next slot, whose name, if it has one, is read: it is where the value goes.
func (r *reader) next() *api.Value {
	last := len(r.slots) - 1
	next := r.slots[last]
	r.slots = r.slots[:last]
	if next.name != nil {
		*next.name = r.Text()
	}
	return next.value
}

// count is how many values a list or a document has right below it; false: more than are left to a value. Looked at ahead of making room for them, so that bytes that only say they are many take none.
func (r *reader) count() (int, bool) {
	n := r.Varint()
	if n > api.MaxParts-r.parts {
		return 0, false
	}
	r.parts += n
	return int(n), true
}

// await lays down n slots, the first one last.
func (r *reader) await(n int, slotAt func(at int) slot) {
	for at := n - 1; at >= 0; at-- {
		r.slots = append(r.slots, slotAt(at))
	}
}
