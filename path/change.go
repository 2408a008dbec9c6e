package path

import (
	"slices"

	"codicil/api"
	"codicil/value"
)

// holder is a value that has others right below it, and the place in it that a step tells.
type holder interface {
	// there is what stands at the place.
	there() api.Value
	// with is the holder with x at the place: instead of what stands there, or added.
	with(x api.Value) api.Value
	// without is the holder without what stands at the place.
	without() api.Value
}

// changed is v, in memory of its own, changed at a path's end by change, which is told the holder that the last step leads into, or what is wrong with that step.
func changed(v api.Value, l []api.Step, change func(last holder, err error) (api.Value, error)) (api.Value, error) {
	if err := check(l); err != nil {
		return api.Value{}, err
	}
	// Copied at once, so that holders may be changed where they stand.
	v = value.Clone(v)
	last := len(l) - 1
	var back []func(api.Value) api.Value
	for _, step := range l[:last] {
		h, err := find(v, step)
		if err != nil {
			return api.Value{}, err
		}
		back = append(back, h.with)
		v = h.there()
	}
	v, err := change(find(v, l[last]))
	if err != nil {
		return api.Value{}, err
	}
	for _, putBack := range slices.Backward(back) {
		v = putBack(v)
	}
	return v, nil
}

// find is v with the place in it that a step, of whatever name and number, tells. With errNew it is the place where something may be added; with another error there is none.
func find(v api.Value, step api.Step) (holder, error) {
	switch {
	case v.Kind == api.KindDoc && step.At < 0:
		return findField(v, step.Name)
	case v.Kind == api.KindList && step.At >= 0:
		return findPlace(v, step.At)
	}
	return nil, errKind
}

// inDocument is a document, and a field's place in it: from it up to to, which is the same where no such field stands yet.
type inDocument struct {
	document api.Value
	name     string
	from, to int
}

func findField(v api.Value, name string) (holder, error) {
	at := slices.IndexFunc(v.Fields, func(f api.Field) bool { return f.Name == name })
	if at >= 0 {
		return inDocument{v, name, at, at + 1}, nil
	}
	// The names of any value need not rise: what counts is the first one above.
	at = slices.IndexFunc(v.Fields, func(f api.Field) bool { return f.Name > name })
	if at < 0 {
		at = len(v.Fields)
	}
	return inDocument{v, name, at, at}, errNew
}

func (h inDocument) there() api.Value { return h.document.Fields[h.from].Value }

func (h inDocument) with(x api.Value) api.Value {
	h.document.Fields = slices.Replace(h.document.Fields, h.from, h.to, api.Field{Name: h.name, Value: x})
	return h.document
}

func (h inDocument) without() api.Value {
	h.document.Fields = slices.Delete(h.document.Fields, h.from, h.to)
	return h.document
}

// inList is a list, and a place in it, as inDocument tells it.
type inList struct {
	list     api.Value
	from, to int
}

func findPlace(v api.Value, at int) (holder, error) {
	switch n := len(v.List); {
	case at < n:
		return inList{v, at, at + 1}, nil
	case at == n:
		return inList{v, at, at}, errNew
	}
	return nil, errNone
}

func (h inList) there() api.Value { return h.list.List[h.from] }

func (h inList) with(x api.Value) api.Value {
	h.list.List = slices.Replace(h.list.List, h.from, h.to, x)
	return h.list
}

func (h inList) without() api.Value {
	h.list.List = slices.Delete(h.list.List, h.from, h.to)
	return h.list
}
