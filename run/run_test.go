package run_test

import (
	"math"
	"slices"
	"testing"

	"colander/api"
	"colander/run"
)

const most = math.MaxUint64

func pairs(l ...uint64) []api.Pair {
	var out []api.Pair
	for i := 0; i+1 < len(l); i += 2 {
		out = append(out, api.Pair{A: l[i], B: l[i+1]})
	}
	return out
}

func at(a, b uint64) api.Pair {
	return api.Pair{A: a, B: b}
}

// many are so many pairs in order, the first one of that A; 1024 to an A.
func many(n int, a uint64) []api.Pair {
	out := make([]api.Pair, n)
	for i := range out {
		out[i] = at(a+uint64(i/1024), uint64(i%1024))
	}
	return out
}

// noRuns are rows that may not be runs, for each reason one at least.
func noRuns() map[string][]api.Pair {
	return map[string][]api.Pair{
		"falling A":                pairs(2, 3, 1, 5),
		"falling A, rising B":      pairs(2, 3, 1, 9, 3, 3),
		"falling B":                pairs(1, 5, 2, 9, 2, 3),
		"twice":                    pairs(1, 5, 1, 5),
		"twice 0":                  pairs(0, 0, 0, 0),
		"twice, at the end":        pairs(1, 5, 2, 3, 2, 9, 2, 9),
		"falling, the first alone": pairs(9, 0, 1, 0, 2, 0, 3, 0),
		"falling, the last alone":  pairs(1, 0, 2, 0, 3, 0, 2, most),
		"one too many":             many(api.MaxRun+1, 0),
	}
}

// runs are those at the edges, and others that are always the same.
func runs() [][]api.Pair {
	l := [][]api.Pair{
		nil, {}, pairs(0, 0), pairs(most, most), pairs(0, 0, most, most), pairs(0, most, 1, 0), pairs(1, 5, 2, 3, 2, 9),
		pairs(2, 3, 7, 7), pairs(0, 0, 0, 1, 0, 2, 1, 0, 1, 1, 1, 2), pairs(most, 0, most, 1, most, most), pairs(5, 5, 6, 4, 7, 3, 8, 2),
		pairs(most-1, most, most, 0),
	}
	x := uint64(88172645463325252)
	for i := range 24 {
		set := map[api.Pair]bool{}
		for range i * 2 {
			x ^= x << 13
			x ^= x >> 7
			x ^= x << 17
			set[at(x%5, x>>32%7)] = true
		}
		l = append(l, inOrder(set))
	}
	return l
}

// inOrder is the run of a set, by a way of its own: the least one is taken out, again and again.
func inOrder(set map[api.Pair]bool) []api.Pair {
	left := map[api.Pair]bool{}
	for p, in := range set {
		if in {
			left[p] = true
		}
	}
	var out []api.Pair
	for len(left) > 0 {
		var least api.Pair
		first := true
		for p := range left {
			if first || p.A < least.A || p.A == least.A && p.B < least.B {
				least, first = p, false
			}
		}
		out = append(out, least)
		delete(left, least)
	}
	return out
}

func setOf(l []api.Pair) map[api.Pair]bool {
	set := map[api.Pair]bool{}
	for _, p := range l {
		set[p] = true
	}
	return set
}

// probes are pairs in, between, ahead of and behind those of all runs.
func probes() []api.Pair {
	var l []api.Pair
	for _, a := range []uint64{0, 1, 2, 3, 5, 7, 9, most - 1, most} {
		for _, b := range []uint64{0, 1, 3, 4, 5, 9, most - 1, most} {
			l = append(l, at(a, b))
		}
	}
	return l
}

func same(t *testing.T, what string, is, want []api.Pair, e, wantE api.Errno) {
	t.Helper()
	if e != wantE || !slices.Equal(is, want) {
		if len(is)+len(want) > 100 {
			t.Errorf("%s: %d pairs and error %d, want %d and %d", what, len(is), e, len(want), wantE)
			return
		}
		t.Errorf("%s: %v and error %d, want %v and %d", what, is, e, want, wantE)
	}
}

// P3.1
func TestCompare(t *testing.T) {
	l := pairs(0, 0, 0, 1, 0, most, 1, 0, 1, 5, 2, 3, 2, 9, 1<<63-1, 7, 1<<63, 0, most, 0, most, most-1, most, most)
	for i, a := range l {
		for j, b := range l {
			want := 0
			if i < j {
				want = -1
			} else if i > j {
				want = 1
			}
			if c := run.Compare(a, b); c != want {
				t.Errorf("Compare(%v, %v): %d, want %d", a, b, c, want)
			}
		}
	}
}

// P3.1
func TestCheck(t *testing.T) {
	for _, l := range runs() {
		if e := run.Check(l); e != api.OK {
			t.Errorf("Check(%v): %d", l, e)
		}
	}
	for why, l := range noRuns() {
		if e := run.Check(l); e != api.ErrRun {
			t.Errorf("Check, %s: %d", why, e)
		}
	}
	if e := run.Check(many(api.MaxRun, 0)); e != api.OK {
		t.Errorf("Check of as many as may be: %d", e)
	}
}

// P3.1
func TestOf(t *testing.T) {
	l := pairs(1, 5, 2, 3, 2, 9)
	m, e := run.Of(pairs(2, 9, 1, 5, 2, 3, 1, 5)...)
	same(t, "the example", m, l, e, api.OK)
	m, e = run.Of()
	same(t, "none", m, nil, e, api.OK)
	m, e = run.Of([]api.Pair{}...)
	same(t, "an empty list", m, nil, e, api.OK)
	m, e = run.Of(at(0, 0), at(0, 0), at(0, 0))
	same(t, "one, thrice", m, pairs(0, 0), e, api.OK)
	m, e = run.Of(pairs(most, most, most, 0, 0, most, 0, 0)...)
	same(t, "the corners", m, pairs(0, 0, 0, most, most, 0, most, most), e, api.OK)
	for why, l := range noRuns() {
		if len(l) > 100 {
			continue
		}
		m, e := run.Of(l...)
		same(t, "Of, "+why, m, inOrder(setOf(l)), e, api.OK)
	}
}

// P3.1: the limit counts each pair once.
func TestOfLimit(t *testing.T) {
	full := many(api.MaxRun, 7)
	m, e := run.Of(full...)
	same(t, "as many as may be", m, full, e, api.OK)
	back := slices.Clone(full)
	slices.Reverse(back)
	m, e = run.Of(append(back, full...)...)
	same(t, "as many as may be, twice", m, full, e, api.OK)
	m, e = run.Of(append([]api.Pair{at(most, 0)}, full...)...)
	same(t, "one too many", m, nil, e, api.ErrFull)
	m, e = run.Of(append(back, at(0, 0), at(7, 0))...)
	same(t, "one too many, and one twice", m, nil, e, api.ErrFull)
}

// P3.2
func TestHas(t *testing.T) {
	for _, l := range runs() {
		in := setOf(l)
		for _, p := range append(probes(), l...) {
			if has := run.Has(l, p); has != in[p] {
				t.Errorf("Has(%v, %v): %t", l, p, has)
			}
		}
	}
	full := many(api.MaxRun, 0)
	if !run.Has(full, full[0]) || !run.Has(full, full[api.MaxRun-1]) || run.Has(full, at(1023, 1024)) {
		t.Error("Has of as many as may be")
	}
	for why, l := range noRuns() {
		for _, p := range []api.Pair{l[0], l[len(l)/2], l[len(l)-1]} {
			if run.Has(l, p) {
				t.Errorf("Has(%v), %s: true", p, why)
			}
		}
	}
}

// P3.2
func TestBetween(t *testing.T) {
	l := pairs(1, 5, 2, 3, 2, 9)
	cases := []struct {
		from, to api.Pair
		want     []api.Pair
	}{
		{at(1, 6), at(2, 9), pairs(2, 3)},
		{at(1, 5), at(2, 9), pairs(1, 5, 2, 3)},
		{at(1, 5), at(2, 10), l}, {at(0, 0), at(most, most), l},
		{at(1, 5), at(1, 5), nil}, {at(1, 5), at(1, 6), pairs(1, 5)}, {at(1, 4), at(1, 5), nil},
		{at(2, 9), at(1, 5), nil}, {at(2, 9), at(2, 3), nil}, {at(most, most), at(0, 0), nil},
		{at(2, 10), at(most, most), nil}, {at(0, 0), at(1, 5), nil}, {at(1, most), at(2, 0), nil}, {at(2, 0), at(1, most), nil},
		{at(2, 9), at(most, 0), pairs(2, 9)},
	}
	for _, c := range cases {
		m := run.Between(l, c.from, c.to)
		same(t, "Between", m, c.want, 0, 0)
	}
	same(t, "to the end: what is not ahead of it is left out", run.Between(pairs(most, most), at(0, 0), at(most, most)), nil, 0, 0)
}

// P3.2: against asking each pair.
func TestBetweenAll(t *testing.T) {
	for _, l := range runs() {
		for _, from := range probes() {
			for _, to := range probes() {
				var want []api.Pair
				for _, p := range l {
					if run.Compare(p, from) >= 0 && run.Compare(p, to) < 0 {
						want = append(want, p)
					}
				}
				same(t, "Between", run.Between(l, from, to), want, 0, 0)
			}
		}
	}
}

// P3.2
func TestFirstsSeconds(t *testing.T) {
	l := pairs(1, 5, 2, 3, 2, 9)
	if m := run.Firsts(l); !slices.Equal(m, []uint64{1, 2}) {
		t.Errorf("Firsts: %v", m)
	}
	for a, want := range map[uint64][]uint64{0: nil, 1: {5}, 2: {3, 9}, 3: nil, most: nil} {
		if m := run.Seconds(l, a); !slices.Equal(m, want) {
			t.Errorf("Seconds of %d: %v, want %v", a, m, want)
		}
	}
	end := pairs(0, 0, 0, most, most-1, most, most, 0, most, most)
	if m := run.Firsts(end); !slices.Equal(m, []uint64{0, most - 1, most}) {
		t.Errorf("Firsts: %v", m)
	}
	for a, want := range map[uint64][]uint64{0: {0, most}, 1: nil, most - 1: {most}, most: {0, most}} {
		if m := run.Seconds(end, a); !slices.Equal(m, want) {
			t.Errorf("Seconds of %d: %v, want %v", a, m, want)
		}
	}
	if len(run.Firsts(nil)) != 0 || len(run.Seconds(nil, 0)) != 0 {
		t.Error("of nothing there is something")
	}
	full := many(api.MaxRun, 0)
	if f, s := run.Firsts(full), run.Seconds(full, 1023); len(f) != 1024 || len(s) != 1024 || f[1023] != 1023 || s[1023] != 1023 {
		t.Errorf("as many as may be: %d firsts, %d seconds", len(f), len(s))
	}
}

// P3.3
func TestUnionMinusMeet(t *testing.T) {
	l, other := pairs(1, 5, 2, 3, 2, 9), pairs(2, 3, 7, 7)
	m, e := run.Union(l, pairs(2, 4))
	same(t, "Union", m, pairs(1, 5, 2, 3, 2, 4, 2, 9), e, api.OK)
	m, e = run.Minus(l, other)
	same(t, "Minus", m, pairs(1, 5, 2, 9), e, api.OK)
	m, e = run.Minus(other, l)
	same(t, "Minus, the other way", m, pairs(7, 7), e, api.OK)
	m, e = run.Meet(l, other)
	same(t, "Meet", m, pairs(2, 3), e, api.OK)
	m, e = run.Minus(l, l)
	same(t, "Minus itself", m, nil, e, api.OK)
}

// P3.3: against sets.
func TestUnionMinusMeetAll(t *testing.T) {
	for _, a := range runs() {
		for _, b := range runs() {
			union, minus, meet := setOf(a), setOf(a), map[api.Pair]bool{}
			for _, p := range b {
				meet[p] = minus[p]
				union[p] = true
				minus[p] = false
			}
			m, e := run.Union(a, b)
			same(t, "Union", m, inOrder(union), e, api.OK)
			m, e = run.Minus(a, b)
			same(t, "Minus", m, inOrder(minus), e, api.OK)
			m, e = run.Meet(a, b)
			same(t, "Meet", m, inOrder(meet), e, api.OK)
		}
	}
}

// P3.3: the limit of what comes, not of what is handed in.
func TestUnionLimit(t *testing.T) {
	full := many(api.MaxRun, 1)
	end := full[api.MaxRun-1]
	m, e := run.Union(full, full)
	same(t, "one, twice", m, full, e, api.OK)
	m, e = run.Union(full[:api.MaxRun-1], []api.Pair{end})
	same(t, "as many as may be", m, full, e, api.OK)
	m, e = run.Union(full[api.MaxRun/2:], full[:api.MaxRun-1])
	same(t, "as many as may be, of parts", m, full, e, api.OK)
	for _, p := range pairs(0, 0, 1, 1024, most, most) {
		m, e = run.Union(full, []api.Pair{p})
		same(t, "one too many", m, nil, e, api.ErrFull)
		m, e = run.Union([]api.Pair{p}, full)
		same(t, "one too many, ahead", m, nil, e, api.ErrFull)
	}
	m, e = run.Union(full, many(api.MaxRun, 5000))
	same(t, "twice as many", m, nil, e, api.ErrFull)
	m, e = run.Minus(full, []api.Pair{end})
	same(t, "Minus of as many as may be", m, full[:api.MaxRun-1], e, api.OK)
	m, e = run.Minus(full, many(api.MaxRun, 5000))
	same(t, "Minus others of as many as may be", m, full, e, api.OK)
	m, e = run.Meet(full, full)
	same(t, "Meet of as many as may be", m, full, e, api.OK)
}

// P3.4
func TestTurn(t *testing.T) {
	m, e := run.Turn(pairs(1, 5, 2, 3, 2, 9))
	same(t, "the example", m, pairs(3, 2, 5, 1, 9, 2), e, api.OK)
	m, e = run.Turn(nil)
	same(t, "none", m, nil, e, api.OK)
	m, e = run.Turn(pairs(0, most, most, 0))
	same(t, "the corners", m, pairs(0, most, most, 0), e, api.OK)
	m, e = run.Turn(pairs(1, 7, 2, 7, 3, 7))
	same(t, "one B", m, pairs(7, 1, 7, 2, 7, 3), e, api.OK)
	for _, l := range runs() {
		set := map[api.Pair]bool{}
		for _, p := range l {
			set[at(p.B, p.A)] = true
		}
		m, e := run.Turn(l)
		same(t, "Turn", m, inOrder(set), e, api.OK)
	}
}

// P3.2 to P3.4: what may not be a run is told ahead of all else, whichever it is; what tells no error tells nothing.
func TestNoRuns(t *testing.T) {
	full, more := many(api.MaxRun, 1), many(api.MaxRun, 5000)
	for why, l := range noRuns() {
		for _, b := range [][]api.Pair{nil, pairs(1, 5), l, full, more} {
			for name, f := range map[string]func(a, b []api.Pair) ([]api.Pair, api.Errno){"Union": run.Union, "Minus": run.Minus, "Meet": run.Meet} {
				m, e := f(l, b)
				same(t, name+", "+why, m, nil, e, api.ErrRun)
				m, e = f(b, l)
				same(t, name+", the second one: "+why, m, nil, e, api.ErrRun)
			}
		}
		m, e := run.Turn(l)
		same(t, "Turn, "+why, m, nil, e, api.ErrRun)
		same(t, "Between, "+why, run.Between(l, at(0, 0), at(most, most)), nil, 0, 0)
		if f := run.Firsts(l); len(f) != 0 {
			t.Errorf("Firsts, %s: %d numbers", why, len(f))
		}
		for _, p := range []api.Pair{l[0], l[len(l)-1]} {
			if s := run.Seconds(l, p.A); len(s) != 0 {
				t.Errorf("Seconds, %s: %d numbers", why, len(s))
			}
		}
	}
}
