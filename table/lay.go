package table

import "colander/api"

func copied(t api.Table) api.Table {
	out := api.Table{Texts: make([]string, len(t.Texts)), Slots: make([]int, len(t.Slots))}
	copy(out.Texts, t.Texts)
	copy(out.Slots, t.Slots)
	return out
}

// with puts in place: it is handed tables of this package alone.
func with(t api.Table, s string) (api.Table, int, api.Errno) {
	at := look{t}.seat(s)
	if n := t.Slots[at]; n > 0 {
		return t, n - 1, api.OK
	}
	number := len(t.Texts)
	if number == api.MaxTexts {
		return api.Table{}, 0, api.ErrFull
	}
	t.Texts = append(t.Texts, s)
	t.Slots[at] = number + 1
	if len(t.Slots) < 2*len(t.Texts) {
		t = wider(t)
	}
	return t, number, api.OK
}

// wider is a copy with twice as many slots: which are a text's own hangs on how many there are, so that all are laid anew.
func wider(t api.Table) api.Table {
	out := api.Table{Texts: make([]string, len(t.Texts)), Slots: make([]int, 2*len(t.Slots))}
	copy(out.Texts, t.Texts)
	lay := func(n int, s string) {
		out.Slots[look{out}.seat(s)] = n + 1
	}
	for n, s := range out.Texts {
		lay(n, s)
	}
	return out
}
