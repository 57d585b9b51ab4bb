package table_test

import (
	"slices"
	"strings"
	"testing"

	"colander/api"
	"colander/table"
)

// checkFollows puts texts, and holds after each what P5.5 says of it.
func checkFollows(t *testing.T, what string, x api.Table, l []string) {
	t.Helper()
	for _, s := range l {
		y, n, e := table.Put(x, s)
		if e == api.ErrFull {
			continue
		}
		if e != api.OK || table.Check(y) != api.OK {
			t.Fatalf("%s, %q put: %d, and what came: %d", what, s, e, table.Check(y))
		}
		if at, ok := table.Find(y, s); at != n || !ok {
			t.Errorf("%s, %q put: found %d %t, want %d", what, s, at, ok, n)
		}
		if is, e := table.Text(y, n); is != s || e != api.OK {
			t.Errorf("%s, %q put: %d tells %q, %d", what, s, n, is, e)
		}
		for m, other := range x.Texts {
			if at, ok := table.Find(y, other); at != m || !ok {
				t.Errorf("%s, %q put: %q became %d %t, was %d", what, s, other, at, ok, m)
			}
		}
		if again, m, e := table.Put(y, s); !same(again, y) || m != n || e != api.OK {
			t.Errorf("%s, %q put twice: %s, %d, %d", what, s, told(again), m, e)
		}
		x = y
	}
}

// P5.5
func TestFollows(t *testing.T) {
	for what, x := range tables() {
		checkFollows(t, what, x, []string{"", "none", "a", "none", "\xff", "b", "c", "d", "e", "text 1"})
	}
	checkFollows(t, "many", table.New(), named(150))
	checkFollows(t, "alike", table.New(), append(homed(20, 64, 63), homed(20, 64, 62)...))
}

// R3: what is handed in stays as it is, the room behind its ends too, and is not kept; what is answered is new memory.
func TestMemory(t *testing.T) {
	for _, x := range []api.Table{table.New(), laid(8, named(3)), laid(8, named(4)), laid(64, named(3))} {
		texts := append(slices.Clone(x.Texts), "room", "room", "room", "room", "room", "room")
		slots := append(slices.Clone(x.Slots), 77, 77, 77)
		list := []string{"a", "text 1", "b", "room", "room"}
		kept, keptSlots, keptList := slices.Clone(texts), slices.Clone(slots), slices.Clone(list)
		handed := api.Table{Texts: texts[:len(x.Texts)], Slots: slots[:len(x.Slots)]}
		calls := map[string]func() (api.Table, []int){
			"Put, new":   func() (api.Table, []int) { y, n, _ := table.Put(handed, "a"); return y, []int{n} },
			"Put, again": func() (api.Table, []int) { y, n, _ := table.Put(handed, "text 1"); return y, []int{n} },
			"All":        func() (api.Table, []int) { y, l, _ := table.All(handed, list[:3]...); return y, l },
			"All, none":  func() (api.Table, []int) { y, l, _ := table.All(handed); return y, l },
			"All, has":   func() (api.Table, []int) { y, l, _ := table.All(handed, handed.Texts...); return y, l },
			"New":        func() (api.Table, []int) { return table.New(), nil },
		}
		for name, call := range calls {
			y, l := call()
			want, wantL := api.Table{Texts: slices.Clone(y.Texts), Slots: slices.Clone(y.Slots)}, slices.Clone(l)
			spoil(y.Texts, "spoilt")
			spoil(y.Slots, 99)
			spoil(l, 98)
			if !slices.Equal(texts, kept) || !slices.Equal(slots, keptSlots) || !slices.Equal(list, keptList) {
				t.Fatalf("%s: what was handed in became %q, %d and %q", name, texts, slots, list)
			}
			if again, l := call(); !same(again, want) || !slices.Equal(l, wantL) {
				t.Errorf("%s, again: %s, %v, want %s, %v", name, told(again), l, told(want), wantL)
			}
		}
		table.Check(handed)
		table.Find(handed, "none")
		table.Text(handed, 1)
		if !slices.Equal(texts, kept) || !slices.Equal(slots, keptSlots) {
			t.Errorf("what was handed in became %q and %d", texts, slots)
		}
	}
}

// R3: what comes of a table stays as it is, though the table, or the texts that were put, change thereafter.
func TestNotKept(t *testing.T) {
	x, list := laid(8, named(3)), []string{"a", "b", "a"}
	y, numbers, _ := table.All(x, list...)
	want := api.Table{Texts: slices.Clone(y.Texts), Slots: slices.Clone(y.Slots)}
	spoil(x.Texts, "spoilt")
	spoil(x.Slots, 0)
	spoil(list, "spoilt")
	if !same(y, want) || !slices.Equal(numbers, []int{3, 4, 3}) {
		t.Errorf("what came became %s, %v", told(y), numbers)
	}
}

func spoil[T any](l []T, by T) {
	l = l[:cap(l)]
	for i := range l {
		l[i] = by
	}
}

// R1: whatever is handed in, no call panics; of what may not be nothing is told; of what may be, what the promises say.
func FuzzTable(f *testing.F) {
	good := laid(16, []string{"", "b", "cc", "a"})
	slots := make([]byte, len(good.Slots))
	for i, n := range good.Slots {
		slots[i] = byte(n)
	}
	f.Add(",b,cc,a", slots, "a", 3)
	f.Add(",b,cc,b", slots, "b", -1)
	f.Add("", []byte{}, "", 0)
	f.Add("x", make([]byte, 8), "x", 0)
	f.Add("x", []byte{1, 255, 0, 2, 0, 0, 0, 0}, "", 1)
	f.Fuzz(func(t *testing.T, texts string, slots []byte, s string, n int) {
		x := api.Table{Texts: strings.Split(texts, ",")}
		for _, b := range slots {
			x.Slots = append(x.Slots, int(int8(b)))
		}
		many := len(x.Slots)
		for _, y := range []api.Table{x, laid(max(many, len(x.Texts)), x.Texts), laid(8, x.Texts[:min(8, len(x.Texts))])} {
			may := mayBe(y)
			if e := table.Check(y); (e == api.OK) != may || e != api.OK && e != api.ErrTable {
				t.Fatalf("Check(%s): %d", told(y), e)
			}
			if at, ok := table.Find(y, s); ok != (may && slices.Contains(y.Texts, s)) || ok && y.Texts[at] != s || !ok && at != 0 {
				t.Errorf("Find(%s, %q): %d %t", told(y), s, at, ok)
			}
			if is, e := table.Text(y, n); (e == api.OK) != (may && n >= 0 && n < len(y.Texts)) || e == api.OK && is != y.Texts[n] || e != api.OK && is != "" {
				t.Errorf("Text(%s, %d): %q, %d", told(y), n, is, e)
			}
			if may {
				checkPut(t, "fuzz", y, s)
			} else if z, m, e := table.Put(y, s); !none(z) || m != 0 || e != api.ErrTable {
				t.Errorf("Put(%s, %q): %s, %d, %d", told(y), s, told(z), m, e)
			}
		}
	})
}
