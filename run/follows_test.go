package run_test

import (
	"slices"
	"testing"

	"colander/api"
	"colander/run"
)

func mayBe(t *testing.T, what string, l []api.Pair, e api.Errno) {
	t.Helper()
	if e != api.OK || run.Check(l) != api.OK {
		t.Errorf("%s: %v and error %d: no run", what, l, e)
	}
}

// P3.5: what comes may be; what is met and what is left are all; union has both.
func TestTwoFollow(t *testing.T) {
	for _, a := range runs() {
		for _, b := range runs() {
			met, e := run.Meet(a, b)
			mayBe(t, "Meet", met, e)
			left, e := run.Minus(a, b)
			mayBe(t, "Minus", left, e)
			union, e := run.Union(a, b)
			mayBe(t, "Union", union, e)
			whole, e := run.Union(met, left)
			same(t, "what is met, and what is left", whole, a, e, api.OK)
			none, e := run.Meet(met, left)
			same(t, "what is met of what is left", none, nil, e, api.OK)
			for _, l := range [][]api.Pair{a, b} {
				part, e := run.Meet(union, l)
				same(t, "what union has of each", part, l, e, api.OK)
			}
			other, e := run.Minus(union, a)
			mayBe(t, "Minus of Union", other, e)
			back, e := run.Minus(b, a)
			same(t, "what union has more", back, other, e, api.OK)
		}
	}
}

// P3.5: turned twice it is as it was.
func TestTurnFollows(t *testing.T) {
	for _, l := range append(runs(), many(api.MaxRun, 3)) {
		m, e := run.Turn(l)
		mayBe(t, "Turn", m, e)
		m, e = run.Turn(m)
		same(t, "turned twice", m, l, e, api.OK)
	}
}

// P3.5: Of in whatever order is the same.
func TestOfFollows(t *testing.T) {
	x := uint64(2463534242)
	for _, l := range runs() {
		m := append(slices.Clone(l), l[len(l)/2:]...)
		for range 20 {
			for i := len(m) - 1; i > 0; i-- {
				x ^= x << 13
				x ^= x >> 7
				x ^= x << 17
				j := int(x % uint64(i+1))
				m[i], m[j] = m[j], m[i]
			}
			out, e := run.Of(m...)
			mayBe(t, "Of", out, e)
			same(t, "Of in another order", out, l, e, api.OK)
		}
	}
}

// P3.5: Seconds of all Firsts are the whole run; what is between may be.
func TestFirstsFollow(t *testing.T) {
	for _, l := range runs() {
		var whole []api.Pair
		for _, a := range run.Firsts(l) {
			for _, b := range run.Seconds(l, a) {
				whole = append(whole, at(a, b))
			}
		}
		same(t, "Seconds of all Firsts", whole, l, 0, 0)
		for _, p := range probes() {
			ahead, behind := run.Between(l, at(0, 0), p), run.Between(l, p, at(most, most))
			mayBe(t, "Between", ahead, api.OK)
			parts := append(ahead, behind...)
			if run.Has(l, at(most, most)) {
				parts = append(parts, at(most, most))
			}
			same(t, "two parts", parts, l, 0, 0)
		}
	}
}

// R3: what is handed in stays as it is, the room behind its end too; what is answered is new memory.
func TestMemory(t *testing.T) {
	a := pairs(1, 5, 2, 3, 2, 9, 9, 9, 0, 0, 4, 4)
	b := pairs(2, 3, 7, 7, 1, 1, 8, 8)
	keptA, keptB := slices.Clone(a), slices.Clone(b)
	calls := map[string]func() []api.Pair{
		"Of":           func() []api.Pair { m, _ := run.Of(a[:4]...); return m },
		"Of, no order": func() []api.Pair { m, _ := run.Of(a...); return m },
		"Union":        func() []api.Pair { m, _ := run.Union(a[:3], b[:2]); return m },
		"Union, alone": func() []api.Pair { m, _ := run.Union(a[:3], b[:0]); return m },
		"Union, other": func() []api.Pair { m, _ := run.Union(a[:0], b[:2]); return m },
		"Minus":        func() []api.Pair { m, _ := run.Minus(a[:3], b[:2]); return m },
		"Minus, none":  func() []api.Pair { m, _ := run.Minus(a[:3], nil); return m },
		"Meet":         func() []api.Pair { m, _ := run.Meet(a[:3], b[:2]); return m },
		"Meet itself":  func() []api.Pair { m, _ := run.Meet(a[:3], a[:3]); return m },
		"Between":      func() []api.Pair { return run.Between(a[:3], at(1, 5), at(2, 9)) },
		"Between all":  func() []api.Pair { return run.Between(a[:3], at(0, 0), at(most, most)) },
		"Turn":         func() []api.Pair { m, _ := run.Turn(a[:3]); return m },
	}
	for name, call := range calls {
		m := call()
		want := slices.Clone(m)
		m = m[:cap(m)]
		for i := range m {
			m[i] = at(77, 77)
		}
		if !slices.Equal(a, keptA) || !slices.Equal(b, keptB) {
			t.Fatalf("%s: what was handed in became %v and %v", name, a, b)
		}
		same(t, name+", again", call(), want, 0, 0)
	}
	run.Firsts(a[:3])
	run.Seconds(a[:3], 2)
	run.Check(a)
	run.Has(a[:3], at(2, 9))
	if !slices.Equal(a, keptA) {
		t.Errorf("what was handed in became %v", a)
	}
}

// R1: no pairs make a call panic; what is no run is told so by all.
func FuzzRuns(f *testing.F) {
	for _, b := range [][]byte{nil, {1, 5, 2, 3, 2, 9}, {2, 3, 1, 5}, {0, 0, 0, 0}, {255, 255}} {
		f.Add(b, uint64(2))
	}
	f.Fuzz(func(t *testing.T, b []byte, a uint64) {
		var l []api.Pair
		for i := 0; i+1 < len(b); i += 2 {
			l = append(l, at(uint64(b[i]), uint64(b[i+1])))
		}
		m, e := run.Of(l...)
		mayBe(t, "Of", m, e)
		turned, e := run.Turn(l)
		is := slices.Equal(l, m)
		if is != (e == api.OK) || is != (run.Check(l) == api.OK) {
			t.Errorf("Turn(%v): %d", l, e)
		}
		if !is && len(turned)+len(run.Firsts(l))+len(run.Seconds(l, a))+len(run.Between(l, at(0, 0), at(a, a))) != 0 {
			t.Errorf("something of %v", l)
		}
		for _, n := range run.Seconds(m, a) {
			if !run.Has(m, at(a, n)) {
				t.Errorf("Seconds(%v, %d): %d", m, a, n)
			}
		}
	})
}
