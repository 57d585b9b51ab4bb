package dict_test

import (
	"slices"
	"testing"

	"colander/api"
	"colander/dict"
)

// P6.5: a name has the id that tells it, and keeps it, whatever is put; kinds don't touch one another.
func TestIdsStay(t *testing.T) {
	for what, d := range dicts() {
		for step, s := range []string{"ann", "zed", "name_1", "a", "z0", "z1", "z2", "name_200", "z3", "_", "x"} {
			kind := (step * 3) % api.DiKinds
			next, id, e := dict.Put(d, kind, s)
			if e == api.ErrFull {
				continue
			}
			if e != api.OK || dict.Check(next) != api.OK {
				t.Fatalf("%s, %q put: %d", what, s, e)
			}
			if at, ok := dict.Id(next, kind, s); at != id || !ok {
				t.Errorf("%s, %q put: its id is %d %t, was %d", what, s, at, ok, id)
			}
			for other := range d.Kinds {
				was, is := dict.Names(d, other), dict.Names(next, other)
				if other != kind && len(is) != len(was) || !slices.Equal(is[:len(was)], was) {
					t.Errorf("%s, %q put, kind %d: kind %d has %.9q, had %.9q", what, s, kind, other, is, was)
				}
				for id, name := range is {
					if at, ok := dict.Id(next, other, name); at != id || !ok {
						t.Errorf("%s, %q put: %q has the id %d %t, had %d", what, s, name, at, ok, id)
					}
					if told, e := dict.Name(next, other, id); told != name || e != api.OK {
						t.Errorf("%s, %q put: %d tells %q, %d, not %q", what, s, id, told, e, name)
					}
				}
			}
			d = next
		}
	}
}

// P6.5: the same name has an id of its own in each kind.
func TestKindsApart(t *testing.T) {
	d := dict.New()
	for kind := range api.DiKinds {
		for n := range kind {
			d, _, _ = dict.Put(d, kind, named(kind)[n])
		}
		var id int
		var e api.Errno
		if d, id, e = dict.Put(d, kind, "ann"); id != kind || e != api.OK {
			t.Errorf("kind %d: %d, %d", kind, id, e)
		}
	}
	for kind := range api.DiKinds {
		if id, ok := dict.Id(d, kind, "ann"); id != kind || !ok {
			t.Errorf("kind %d: %d %t", kind, id, ok)
		}
		if l := dict.Names(d, kind); !slices.Equal(l, append(named(kind), "ann")) {
			t.Errorf("kind %d: %q", kind, l)
		}
	}
}

// P6.5: the order in which kinds get their names hangs on nothing.
func TestKindsInAnyOrder(t *testing.T) {
	a, b := dict.New(), dict.New()
	for _, s := range named(40) {
		for kind := range api.DiKinds {
			a, _, _ = dict.Put(a, kind, s)
		}
	}
	for kind := range api.DiKinds {
		for _, s := range named(40) {
			b, _, _ = dict.Put(b, api.DiKinds-1-kind, s)
		}
	}
	x, _ := dict.Bytes(a)
	y, _ := dict.Bytes(b)
	if !dict.Same(a, b) || !slices.Equal(x, y) || len(x) == 0 {
		t.Errorf("%s, %s", told(a), told(b))
	}
}

// R3: what is handed in stays as it is, the room behind its ends too, and is not kept; what is answered is new memory.
func TestMemory(t *testing.T) {
	for what, d := range dicts() {
		handed := roomy(d)
		was := kept(whole(handed))
		b, _ := dict.Bytes(d)
		bytes := append(slices.Clone(b), "room"...)
		calls := map[string]func() (api.Dict, []string, []byte){
			"Put, new":   func() (api.Dict, []string, []byte) { out, _, _ := dict.Put(handed, 2, "fresh"); return out, nil, nil },
			"Put, again": func() (api.Dict, []string, []byte) { out, _, _ := dict.Put(handed, 0, "ann"); return out, nil, nil },
			"Put, value": func() (api.Dict, []string, []byte) { out, _, _ := dict.Put(handed, 4, ""); return out, nil, nil },
			"Names":      func() (api.Dict, []string, []byte) { return api.Dict{}, dict.Names(handed, 0), nil },
			"Names, 4":   func() (api.Dict, []string, []byte) { return api.Dict{}, dict.Names(handed, 4), nil },
			"Bytes":      func() (api.Dict, []string, []byte) { out, _ := dict.Bytes(handed); return api.Dict{}, nil, out },
			"Read":       func() (api.Dict, []string, []byte) { out, _, _ := dict.Read(bytes[:len(b)], 0); return out, nil, nil },
			"New":        func() (api.Dict, []string, []byte) { return dict.New(), nil, nil },
		}
		for name, call := range calls {
			out, l, laid := call()
			want, wantL, wantLaid := kept(out), slices.Clone(l), slices.Clone(laid)
			for kind := range out.Kinds {
				spoil(out.Kinds[kind].Texts, "spoilt")
				spoil(out.Kinds[kind].Slots, 99)
				for other := kind + 1; other < api.DiKinds; other++ {
					if !slices.Equal(out.Kinds[other].Texts, want.Kinds[other].Texts) || !slices.Equal(out.Kinds[other].Slots, want.Kinds[other].Slots) {
						t.Errorf("%s, %s: kinds %d and %d have one memory", what, name, kind, other)
					}
				}
			}
			spoil(l, "spoilt")
			spoil(laid, 77)
			if !asIs(whole(handed), was) || string(bytes) != string(b)+"room" {
				t.Fatalf("%s, %s: what was handed in became %s, %q", what, name, told(handed), bytes)
			}
			if again, l, laid := call(); !asIs(again, want) || !slices.Equal(l, wantL) || !slices.Equal(laid, wantLaid) {
				t.Errorf("%s, %s, again: %s, %q, %q, want %s, %q, %q", what, name, told(again), l, laid, told(want), wantL, wantLaid)
			}
		}
	}
}

// R3: what was read stays as it is, though the bytes change thereafter; and so does what comes of a dictionary.
func TestNotKept(t *testing.T) {
	d := only(3, "ann", "bob")
	b, _ := dict.Bytes(d)
	out, _, _ := dict.Read(b, 0)
	put, _, _ := dict.Put(d, 3, "bob")
	spoil(b, 'x')
	if l := dict.Names(out, 3); !slices.Equal(l, []string{"ann", "bob"}) {
		t.Errorf("what was read became %q", l)
	}
	l := dict.Names(d, 3)
	spoil(d.Kinds[3].Texts, "spoilt")
	spoil(d.Kinds[3].Slots, 0)
	if dict.Check(put) != api.OK || !slices.Equal(dict.Names(put, 3), l) || !slices.Equal(l, []string{"ann", "bob"}) {
		t.Errorf("what came became %s, %q", told(put), l)
	}
}

// roomy has room behind the ends of all its lists, and something there.
func roomy(d api.Dict) api.Dict {
	for kind, t := range d.Kinds {
		texts := append(slices.Clone(t.Texts), "room", "room", "room")
		slots := append(slices.Clone(t.Slots), 77, 77, 77)
		d.Kinds[kind] = api.Table{Texts: texts[:len(t.Texts)], Slots: slots[:len(t.Slots)]}
	}
	return d
}

func whole(d api.Dict) api.Dict {
	for kind, t := range d.Kinds {
		d.Kinds[kind] = api.Table{Texts: t.Texts[:len(t.Texts)+3], Slots: t.Slots[:len(t.Slots)+3]}
	}
	return d
}

func spoil[T any](l []T, by T) {
	l = l[:cap(l)]
	for i := range l {
		l[i] = by
	}
}

// P6.5, R1: whatever bytes are handed in, what is read of them may be, and has just those bytes.
func FuzzRead(f *testing.F) {
	for _, d := range dicts() {
		f.Add(written(d), 0, 0, "ann")
	}
	f.Add([]byte("xx\x02\x01a\x01b\x00\x00\x00\x01\x00x"), 2, 4, "")
	f.Add([]byte("\x02\x01a\x01a\x00\x00\x00\x00"), 0, 1, "a")
	f.Add([]byte("\x00\x00\x00\x00\x01\x01\""), 0, -1, "\"")
	f.Add([]byte{}, -1, 5, "")
	f.Fuzz(func(t *testing.T, b []byte, at, kind int, s string) {
		d, next, e := dict.Read(b, at)
		if at < 0 || at > len(b) {
			if e != api.ErrArg {
				t.Fatalf("Read at %d of %d: %d", at, len(b), e)
			}
		} else if e != api.OK && e != api.ErrDict {
			t.Fatalf("Read: %d", e)
		}
		if e != api.OK {
			if !none(d) || next != 0 {
				t.Fatalf("Read: %s, %d, %d", told(d), next, e)
			}
			return
		}
		if !mayBe(d) || !slices.Equal(written(d), b[at:next]) {
			t.Fatalf("Read(%q, %d): %s, %d", b, at, told(d), next)
		}
		if laid, e := dict.Bytes(d); !slices.Equal(laid, b[at:next]) || e != api.OK {
			t.Fatalf("Bytes of %q: %q, %d", b[at:next], laid, e)
		}
		out := checkPut(t, "fuzz", d, kind, s)
		if dict.May(kind, s) != allows(kind, s) {
			t.Fatalf("May(%d, %q)", kind, s)
		}
		if id, ok := dict.Id(out, kind, s); ok != (mayBe(out) && slices.Contains(out.Kinds[kind].Texts, s)) || ok && out.Kinds[kind].Texts[id] != s {
			t.Fatalf("Id(%d, %q): %d %t", kind, s, id, ok)
		}
	})
}
