package view_test

import (
	"math"
	"slices"
	"testing"

	"colander/api"
	"colander/view"
)

const most = math.MaxUint64

func at(a, b uint64) api.Pair {
	return api.Pair{A: a, B: b}
}

// pairs are of two numbers each.
func pairs(l ...uint64) []api.Pair {
	var out []api.Pair
	for i := 0; i+1 < len(l); i += 2 {
		out = append(out, at(l[i], l[i+1]))
	}
	return out
}

func tier(adds, drops []api.Pair) api.Tier {
	return api.Tier{Adds: adds, Drops: drops}
}

// many are so many pairs in order, the first one of that A; 1024 to an A.
func many(n int, a uint64) []api.Pair {
	out := make([]api.Pair, n)
	for i := range out {
		out[i] = at(a+uint64(i/1024), uint64(i%1024))
	}
	return out
}

// ahead tells whether a pair is ahead of another.
func ahead(p, q api.Pair) bool {
	return p.A < q.A || p.A == q.A && p.B < q.B
}

// content is what tiers come to, by the words of tiers: from the oldest one on, a newer word in place of the older one.
func content(l []api.Tier) []api.Pair {
	said := map[api.Pair]bool{}
	for _, t := range l {
		for _, p := range t.Adds {
			said[p] = true
		}
		for _, p := range t.Drops {
			said[p] = false
		}
	}
	var out []api.Pair
	for p, there := range said {
		if there {
			out = append(out, p)
		}
	}
	slices.SortFunc(out, func(p, q api.Pair) int {
		switch {
		case ahead(p, q):
			return -1
		case ahead(q, p):
			return 1
		}
		return 0
	})
	return out
}

// mayBe tells whether tiers may be, by the words of tiers.
func mayBe(l []api.Tier) bool {
	for _, t := range l {
		if !isRun(t.Adds) || !isRun(t.Drops) {
			return false
		}
		for _, p := range t.Adds {
			if slices.Contains(t.Drops, p) {
				return false
			}
		}
	}
	return len(l) <= api.MaxTiers
}

func isRun(l []api.Pair) bool {
	for i := 1; i < len(l); i++ {
		if !ahead(l[i-1], l[i]) {
			return false
		}
	}
	return len(l) <= api.MaxRun
}

// noTiers are what may not be, for each reason, at each place.
func noTiers() map[string][]api.Tier {
	fine := tier(pairs(1, 1), pairs(2, 2))
	out := map[string][]api.Tier{
		"one too many":           slices.Repeat([]api.Tier{fine}, api.MaxTiers+1),
		"one too many, of empty": make([]api.Tier, api.MaxTiers+1),
		"together":               {tier(pairs(1, 1), pairs(1, 1))},
		"together at the end":    {fine, tier(pairs(1, 1, 2, 2, 5, 0), pairs(0, 0, 5, 0))},
		"together in the oldest": {tier(pairs(7, 7, 8, 8), pairs(7, 7)), fine},
		"together in the middle": {fine, tier(pairs(most, most), pairs(6, 6, most, most)), fine},
	}
	for why, l := range map[string][]api.Pair{
		"falling A":    pairs(2, 3, 1, 5),
		"falling B":    pairs(1, 5, 2, 9, 2, 3),
		"twice":        pairs(1, 5, 1, 5),
		"one too many": many(api.MaxRun+1, 0),
	} {
		out["adds of the oldest: "+why] = []api.Tier{tier(l, nil), fine}
		out["adds: "+why] = []api.Tier{fine, tier(l, nil), fine}
		out["drops: "+why] = []api.Tier{fine, tier(nil, l), fine}
		out["drops of the newest: "+why] = []api.Tier{fine, tier(nil, l)}
	}
	return out
}

// allTiers are all tiers of three pairs at most: each of them added, dropped, or neither.
func allTiers() []api.Tier {
	out := []api.Tier{{}}
	for _, p := range pairs(0, 0, 1, most, most, 0) {
		for _, t := range slices.Clone(out) {
			out = append(out, tier(append(slices.Clone(t.Adds), p), t.Drops), tier(t.Adds, append(slices.Clone(t.Drops), p)))
		}
	}
	return out
}

// rowsOf are all rows of at most so many of these tiers.
func rowsOf(l []api.Tier, most int) [][]api.Tier {
	out := [][]api.Tier{nil}
	for i := 0; i < len(out) && len(out[i]) < most; i++ {
		for _, t := range l {
			out = append(out, append(slices.Clone(out[i]), t))
		}
	}
	return out
}

// next is a number of a row that looks like chance and is always the same.
func next(x *uint64) uint64 {
	*x = *x*6364136223846793005 + 1442695040888963407
	return *x >> 33
}

// someTiers are so many, of some hundred pairs; some of them say much, some little.
func someTiers(n int, x *uint64) []api.Tier {
	out := make([]api.Tier, n)
	for i := range out {
		dense := next(x)%9 + 3
		for a := range uint64(10) {
			for b := range uint64(12) {
				switch next(x) % dense {
				case 0:
					out[i].Adds = append(out[i].Adds, at(a*a, b*2))
				case 1:
					out[i].Drops = append(out[i].Drops, at(a*a, b*2))
				}
			}
		}
	}
	return out
}

// manyTiers are rows of all lengths that may be, always the same.
func manyTiers() [][]api.Tier {
	x := uint64(13)
	var out [][]api.Tier
	for n := range api.MaxTiers + 1 {
		out = append(out, someTiers(n, &x), someTiers(n, &x))
	}
	return out
}

// probes are pairs to be sought: all that tiers have, those beside them, and the greatest and the least.
func probes(l []api.Tier) []api.Pair {
	out := pairs(0, 0, 0, most, most, 0, most, most)
	for _, t := range l {
		for _, p := range slices.Concat(t.Adds, t.Drops) {
			for _, q := range []api.Pair{p, at(p.A, p.B+1), at(p.A, p.B-1), at(p.A+1, 0), at(p.A-1, most)} {
				if !slices.Contains(out, q) {
					out = append(out, q)
				}
			}
		}
	}
	return out
}

// mustView is a view of tiers that may be.
func mustView(t *testing.T, l []api.Tier) *view.View {
	t.Helper()
	v, e := view.Of(l)
	if e != api.OK || v == nil {
		t.Fatalf("Of: %v, error %d", v, e)
	}
	return v
}

// mustStand looks whether a view has these pairs before it, and no others; and whether looking leaves it there.
func mustStand(t *testing.T, what string, v *view.View, want []api.Pair) {
	t.Helper()
	for range 2 {
		mustBeAt(t, what, v, want)
		if is := v.Rest(); !slices.Equal(is, want) {
			if len(is)+len(want) > 50 {
				t.Fatalf("%s: Rest: %d pairs, not these %d", what, len(is), len(want))
			}
			t.Fatalf("%s: Rest: %v, not %v", what, is, want)
		}
	}
}

// mustBeAt looks whether a view stands at the first one of these pairs; at the end, if there is none.
func mustBeAt(t *testing.T, what string, v *view.View, rest []api.Pair) {
	t.Helper()
	p, ok := v.At()
	switch {
	case len(rest) > 0 && (!ok || p != rest[0]):
		t.Fatalf("%s: At: %v, %t, not %v", what, p, ok, rest[0])
	case len(rest) == 0 && (ok || p != api.Pair{}):
		t.Fatalf("%s: At: %v, %t at the end", what, p, ok)
	}
}

func must(t *testing.T, what string, e, want api.Errno) {
	t.Helper()
	if e != want {
		t.Fatalf("%s: error %d, not %d", what, e, want)
	}
}
