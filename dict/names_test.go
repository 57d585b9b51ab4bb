package dict_test

import (
	"math"
	"slices"
	"testing"

	"colander/api"
	"colander/dict"
)

var kindsAndNot = append([]int{0, 1, 2, 3, 4}, noKinds...)

// P6.2
func TestId(t *testing.T) {
	for what, d := range dicts() {
		for _, kind := range kindsAndNot {
			var has []string
			if kind >= 0 && kind < api.DiKinds {
				has = d.Kinds[kind].Texts
			}
			for want, s := range has {
				if id, ok := dict.Id(d, kind, s); id != want || !ok {
					t.Errorf("Id(%s, %d, %q): %d %t, want %d", what, kind, s, id, ok, want)
				}
			}
			for _, s := range []string{"", "a", "e", "ann", "an", "annn", "Ann", "knows", "name_0", "name_127", "name_128", "\"", "\xff"} {
				if slices.Contains(has, s) {
					continue
				}
				if id, ok := dict.Id(d, kind, s); id != 0 || ok {
					t.Errorf("Id(%s, %d, %q): %d %t, want none", what, kind, s, id, ok)
				}
			}
		}
	}
}

// P6.2
func TestName(t *testing.T) {
	for what, d := range dicts() {
		for kind, x := range d.Kinds {
			for id, want := range x.Texts {
				if s, e := dict.Name(d, kind, id); s != want || e != api.OK {
					t.Errorf("Name(%s, %d, %d): %q, %d, want %q", what, kind, id, s, e, want)
				}
			}
			for _, id := range []int{math.MinInt, -2, -1, len(x.Texts), len(x.Texts) + 1, 128, 129, math.MaxInt} {
				if s, e := dict.Name(d, kind, id); s != "" || e != api.ErrNone {
					t.Errorf("Name(%s, %d, %d): %q, %d, want ErrNone", what, kind, id, s, e)
				}
			}
		}
		for _, kind := range noKinds {
			for _, id := range []int{math.MinInt, -1, 0, 1, math.MaxInt} {
				if s, e := dict.Name(d, kind, id); s != "" || e != api.ErrArg {
					t.Errorf("Name(%s, %d, %d): %q, %d, want ErrArg", what, kind, id, s, e)
				}
			}
		}
	}
}

// P6.2
func TestNames(t *testing.T) {
	for what, d := range dicts() {
		for kind, x := range d.Kinds {
			if l := dict.Names(d, kind); !slices.Equal(l, x.Texts) {
				t.Errorf("Names(%s, %d): %q", what, kind, l)
			}
		}
		for _, kind := range noKinds {
			if l := dict.Names(d, kind); len(l) != 0 {
				t.Errorf("Names(%s, %d): %q", what, kind, l)
			}
		}
	}
}

// checkPut holds what Put comes to against the promise, and hands it on.
func checkPut(t *testing.T, what string, d api.Dict, kind int, s string) api.Dict {
	t.Helper()
	out, id, e := dict.Put(d, kind, s)
	if !allows(kind, s) {
		if !none(out) || id != 0 || e != api.ErrArg {
			t.Errorf("%s, %.12q is no name of kind %d: %s, %d, %d", what, s, kind, told(out), id, e)
		}
		return out
	}
	l := d.Kinds[kind].Texts
	at := slices.Index(l, s)
	switch {
	case at >= 0:
		if !asIs(out, d) || id != at || e != api.OK {
			t.Errorf("%s, it has %q of kind %d: %s, %d, %d, want %d and what was", what, s, kind, told(out), id, e, at)
		}
	case len(l) == 128:
		if !none(out) || id != 0 || e != api.ErrFull {
			t.Errorf("%s, kind %d is full: %s, %d, %d", what, kind, told(out), id, e)
		}
	default:
		want := kept(d)
		want.Kinds[kind].Texts = append(want.Kinds[kind].Texts, s)
		if !mayBe(out) || !dict.Same(out, want) || id != len(l) || e != api.OK {
			t.Errorf("%s, %q put, kind %d: %s, %d, %d", what, s, kind, told(out), id, e)
		}
		for other := range d.Kinds {
			if other != kind && !slices.Equal(out.Kinds[other].Slots, d.Kinds[other].Slots) {
				t.Errorf("%s, %q put, kind %d: kind %d is laid anew", what, s, kind, other)
			}
		}
	}
	return out
}

// P6.3
func TestPut(t *testing.T) {
	for what, d := range dicts() {
		for _, kind := range kindsAndNot {
			for _, s := range []string{"ann", "bob", "a", "name_0", "name_127", "new", "_", "0"} {
				checkPut(t, what, d, kind, s)
			}
			for _, s := range notAllowed(api.DiNode) {
				checkPut(t, what, d, kind, s)
			}
			if kind >= 0 && kind < api.DiKinds {
				for _, s := range d.Kinds[kind].Texts {
					checkPut(t, what, d, kind, s)
				}
			}
		}
	}
}

// P6.3: of each kind from the first name on to one too many; what is no name is told ahead of there being no room.
func TestPutMany(t *testing.T) {
	d := dict.New()
	l := named(129)
	for kind := range api.DiKinds {
		for n, s := range l[:128] {
			d = checkPut(t, "many", d, kind, s)
			checkPut(t, "many, again", d, kind, l[n/2])
		}
		checkPut(t, "one too many", d, kind, l[128])
		checkPut(t, "no name", d, kind, "\\")
		for _, s := range l[:128] {
			checkPut(t, "full, again", d, kind, s)
		}
	}
}

// P6.2, P6.3: of what may not be nothing is told, ahead of all else.
func TestNoDicts(t *testing.T) {
	for why, d := range noDicts() {
		for _, kind := range kindsAndNot {
			for _, s := range []string{"ann", "a", "new", "", "\"", "name_0", "name_1000"} {
				if id, ok := dict.Id(d, kind, s); id != 0 || ok {
					t.Errorf("Id, %s: %d %t", why, id, ok)
				}
				if out, id, e := dict.Put(d, kind, s); !none(out) || id != 0 || e != api.ErrDict {
					t.Errorf("Put, %s: %s, %d, %d", why, told(out), id, e)
				}
			}
			for _, id := range []int{-1, 0, 1, 500} {
				if s, e := dict.Name(d, kind, id); s != "" || e != api.ErrDict {
					t.Errorf("Name, %s: %q, %d", why, s, e)
				}
			}
			if l := dict.Names(d, kind); len(l) != 0 {
				t.Errorf("Names, %s: %q", why, l)
			}
		}
		if b, e := dict.Bytes(d); len(b) != 0 || e != api.ErrDict {
			t.Errorf("Bytes, %s: %d bytes, %d", why, len(b), e)
		}
	}
}
