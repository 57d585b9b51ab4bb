package gallop_test

import (
	"math"
	"slices"
	"testing"

	"colander/api"
	"colander/gallop"
)

// P4.6: what stands ahead of the place is less, all behind is not; sought again from there, it is there; of keys that rise the places do.
func TestSeekFollows(t *testing.T) {
	for _, c := range calls() {
		for _, l := range rows() {
			for from := range len(l) + 1 {
				last := from
				for _, key := range keys(l) {
					at, _, e := c.seek(l, from, key)
					if e != api.OK || at < last || at > len(l) {
						t.Fatalf("%s(%v, %d, %d): %d, %d; of a lesser key %d", c.name, l, from, key, at, e, last)
					}
					last = at
					is := func(n uint64) bool { return c.is(n, key) }
					if slices.ContainsFunc(l[from:at], is) {
						t.Errorf("%s(%v, %d, %d): %d; ahead there is more", c.name, l, from, key, at)
					}
					if slices.ContainsFunc(l[at:], func(n uint64) bool { return !is(n) }) {
						t.Errorf("%s(%v, %d, %d): %d; behind there is less", c.name, l, from, key, at)
					}
					if again, _, e := c.seek(l, at, key); again != at || e != api.OK {
						t.Errorf("%s(%v, %d, %d): %d; again %d, %d", c.name, l, from, key, at, again, e)
					}
				}
			}
		}
	}
}

// P4.2, P4.4: all looks are counted. A look at a number that is not the key tells less or more, and looks that tell 1001 gaps apart, each by a path of its own, are so many that the powers come to 1 at most.
func TestLooksCounted(t *testing.T) {
	l := row(1000, 2, 2)
	ways := map[string]func(key uint64) int{
		"Seek":   func(key uint64) int { _, looks, _ := gallop.Seek(l, 0, key); return looks },
		"Behind": func(key uint64) int { _, looks, _ := gallop.Behind(l, 0, key); return looks },
		"Meet":   func(key uint64) int { _, looks := gallop.Meet(l, []uint64{key}); return looks },
	}
	for name, looks := range ways {
		sum := 0.0
		for gap := range len(l) + 1 {
			sum += math.Ldexp(1, -looks(uint64(2*gap+1)))
		}
		if sum > 1 {
			t.Errorf("%s: fewer looks than it takes: %f", name, sum)
		}
	}
}

// R3: what is handed in stays as it is, the room behind its end too; what is answered is new memory.
func TestMemory(t *testing.T) {
	a, b := []uint64{3, 5, 8, 9, 12, 12, 1}, []uint64{2, 5, 9, 9, 0}
	keptA, keptB := slices.Clone(a), slices.Clone(b)
	for name, call := range map[string]func() []uint64{
		"Meet":        func() []uint64 { m, _ := gallop.Meet(a[:5], b[:3]); return m },
		"Meet itself": func() []uint64 { m, _ := gallop.Meet(a[:5], a[:5]); return m },
		"Meet part":   func() []uint64 { m, _ := gallop.Meet(a[:5], a[1:3]); return m },
		"Meet none":   func() []uint64 { m, _ := gallop.Meet(a[:5], b[:0]); return m },
	} {
		m := call()
		want := slices.Clone(m)
		m = m[:cap(m)]
		for i := range m {
			m[i] = 77
		}
		if !slices.Equal(a, keptA) || !slices.Equal(b, keptB) {
			t.Fatalf("%s: what was handed in became %v and %v", name, a, b)
		}
		if again := call(); !slices.Equal(again, want) {
			t.Errorf("%s, again: %v, want %v", name, again, want)
		}
	}
	gallop.Rising(a)
	gallop.Has(a[:5], 8)
	gallop.Span(a[:5], 4, 9)
	for _, c := range calls() {
		if _, _, e := c.seek(a[:5], 0, 13); e != api.OK {
			t.Errorf("%s: the room behind the end: %d", c.name, e)
		}
	}
	if !slices.Equal(a, keptA) {
		t.Errorf("what was handed in became %v", a)
	}
}

// R1: no row makes a call panic; of what does not rise nothing is told.
func FuzzRows(f *testing.F) {
	for _, b := range [][]byte{nil, {3, 5, 8, 9, 12}, {5, 3}, {4, 4}, {0, 255}, {1, 2, 3, 4, 5, 6, 7, 8, 9}} {
		f.Add(b, []byte{2, 5, 9}, 0, uint64(8))
	}
	f.Add([]byte{1, 2}, []byte{}, -1, uint64(0))
	f.Add([]byte{1, 2}, []byte{1, 1}, 3, uint64(most))
	f.Fuzz(func(t *testing.T, x, y []byte, from int, key uint64) {
		l, other := numbers(x), numbers(y)
		rising := slices.IsSorted(l) && len(slices.Compact(slices.Clone(l))) == len(l)
		if gallop.Rising(l) != rising {
			t.Errorf("Rising(%v): %t", l, !rising)
		}
		for _, c := range calls() {
			if rising && from >= 0 && from <= len(l) {
				checkSeek(t, c, l, from, key, first(l, from, func(n uint64) bool { return c.is(n, key) }))
			} else if at, looks, e := c.seek(l, from, key); at != 0 || looks != 0 || e != api.ErrArg {
				t.Errorf("%s(%v, %d, %d): %d, %d, %d", c.name, l, from, key, at, looks, e)
			}
		}
		if has := gallop.Has(l, key); has != (rising && slices.Contains(l, key)) {
			t.Errorf("Has(%v, %d): %t", l, key, has)
		}
		if from, to := gallop.Span(l, key/2, key); !rising && (from != 0 || to != 0) || from > to || to > len(l) {
			t.Errorf("Span(%v, %d, %d): %d, %d", l, key/2, key, from, to)
		}
		if rising && gallop.Rising(other) {
			checkMeet(t, l, other)
		} else if both, looks := gallop.Meet(l, other); len(both) != 0 || looks != 0 {
			t.Errorf("Meet(%v, %v): %v, %d", l, other, both, looks)
		}
	})
}

func numbers(b []byte) []uint64 {
	var out []uint64
	for _, n := range b {
		out = append(out, uint64(n))
	}
	return out
}
