package dict

import (
	"iter"
	"slices"

	"colander/api"
	"colander/codec"
	"colander/table"
)

func tables(d api.Dict) iter.Seq2[int, api.Table] {
	return func(yield func(int, api.Table) bool) {
		for kind, t := range d.Kinds {
			if !yield(kind, t) {
				return
			}
		}
	}
}

func tableOf(d api.Dict, kind int) (api.Table, api.Errno) {
	if Check(d) != api.OK {
		return api.Table{}, api.ErrDict
	}
	if !isKind(kind) {
		return api.Table{}, api.ErrArg
	}
	return d.Kinds[kind], api.OK
}

func copied(d api.Dict) api.Dict {
	var out api.Dict
	for kind, t := range tables(d) {
		out.Kinds[kind] = api.Table{Texts: slices.Clone(t.Texts), Slots: slices.Clone(t.Slots)}
	}
	return out
}

// with is handed dictionaries that may be alone.
func with(d api.Dict, kind int, l ...string) (api.Dict, []int, api.Errno) {
	for _, s := range l {
		if !May(kind, s) {
			return api.Dict{}, nil, api.ErrArg
		}
	}
	// A table has room for more texts than a kind has names: whether it is full is asked of what comes, so that names which it has need no room.
	t, ids, e := table.All(d.Kinds[kind], l...)
	if e != api.OK {
		return api.Dict{}, nil, e
	}
	if len(t.Texts) > api.MaxNames {
		return api.Dict{}, nil, api.ErrFull
	}
	out := copied(d)
	out.Kinds[kind] = t
	return out, ids, api.OK
}

func readNames(b []byte, at int) ([]string, int, api.Errno) {
	many, next, e := codec.ReadNumber(b, at)
	if e != api.OK {
		return nil, 0, e
	}
	if many > api.MaxNames {
		return nil, 0, api.ErrFull
	}
	out := make([]string, many)
	for i := range out {
		out[i], next, e = codec.ReadText(b, next)
		if e != api.OK {
			return nil, 0, e
		}
	}
	return out, next, api.OK
}
