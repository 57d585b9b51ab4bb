package tiers_test

import (
	"math"
	"slices"
	"testing"

	"colander/api"
	"colander/tiers"
)

const most = math.MaxUint64

func at(a, b uint64) api.Pair {
	return api.Pair{A: a, B: b}
}

// pairs are of two numbers each.
func pairs(l ...uint64) []api.Pair {
	var out []api.Pair
	for i := 0; i+1 < len(l); i += 2 {
		out = append(out, at(l[i], l[i+1]))
	}
	return out
}

func tier(adds, drops []api.Pair) api.Tier {
	return api.Tier{Adds: adds, Drops: drops}
}

// many are so many pairs in order, the first one of that A; 1024 to an A.
func many(n int, a uint64) []api.Pair {
	out := make([]api.Pair, n)
	for i := range out {
		out[i] = at(a+uint64(i/1024), uint64(i%1024))
	}
	return out
}

// noRuns are rows that may not be runs, for each reason one at least.
func noRuns() map[string][]api.Pair {
	return map[string][]api.Pair{
		"falling A":    pairs(2, 3, 1, 5),
		"falling B":    pairs(1, 5, 2, 9, 2, 3),
		"twice":        pairs(1, 5, 1, 5),
		"one too many": many(api.MaxRun+1, 0),
	}
}

// noTiers are what may not be, for each reason, at each place.
func noTiers() map[string][]api.Tier {
	fine := tier(pairs(1, 1), pairs(2, 2))
	out := map[string][]api.Tier{
		"one too many":            slices.Repeat([]api.Tier{fine}, api.MaxTiers+1),
		"one too many, of empty":  make([]api.Tier, api.MaxTiers+1),
		"together":                {tier(pairs(1, 1), pairs(1, 1))},
		"together at the end":     {tier(pairs(1, 1, 2, 2, 5, 0), pairs(0, 0, 5, 0))},
		"together, 0":             {fine, tier(pairs(0, 0), pairs(0, 0))},
		"together, in the oldest": {tier(pairs(7, 7, 8, 8), pairs(7, 7)), fine},
		"together in the middle":  {fine, tier(pairs(7, 7), pairs(6, 6, 7, 7)), fine},
	}
	for why, l := range noRuns() {
		out["adds: "+why] = []api.Tier{fine, tier(l, nil), fine}
		out["drops: "+why] = []api.Tier{fine, tier(nil, l), fine}
		out["adds of the oldest: "+why] = []api.Tier{tier(l, nil), fine}
		out["drops of the newest: "+why] = []api.Tier{fine, tier(nil, l)}
	}
	return out
}

// mayBe tells whether tiers may be, by the chapter's words.
func mayBe(l []api.Tier) bool {
	for _, t := range l {
		if !isRun(t.Adds) || !isRun(t.Drops) {
			return false
		}
		for _, p := range t.Adds {
			if slices.Contains(t.Drops, p) {
				return false
			}
		}
	}
	return len(l) <= api.MaxTiers
}

func isRun(l []api.Pair) bool {
	for i, p := range l {
		for _, q := range l[:i] {
			if q.A > p.A || q.A == p.A && q.B >= p.B {
				return false
			}
		}
	}
	return len(l) <= api.MaxRun
}

// words are what tiers say: from the oldest one on, a newer word in place of the older one.
func words(l []api.Tier) map[api.Pair]bool {
	said := map[api.Pair]bool{}
	for _, t := range l {
		for _, p := range t.Adds {
			said[p] = true
		}
		for _, p := range t.Drops {
			said[p] = false
		}
	}
	return said
}

// wantOne is tiers as one.
func wantOne(oldest bool, l ...api.Tier) api.Tier {
	var one api.Tier
	for p, there := range words(l) {
		if there {
			one.Adds = append(one.Adds, p)
		} else if !oldest {
			one.Drops = append(one.Drops, p)
		}
	}
	sorted(one.Adds)
	sorted(one.Drops)
	return one
}

func sorted(l []api.Pair) {
	slices.SortFunc(l, func(p, q api.Pair) int {
		switch {
		case p == q:
			return 0
		case p.A < q.A || p.A == q.A && p.B < q.B:
			return -1
		}
		return 1
	})
}

func kept(l []api.Tier) []api.Tier {
	var out []api.Tier
	for _, t := range l {
		out = append(out, tier(slices.Clone(t.Adds), slices.Clone(t.Drops)))
	}
	return out
}

// alike is a way of its own to tell whether tiers are the same.
func alike(a, b []api.Tier) bool {
	if len(a) != len(b) {
		return false
	}
	for i := range a {
		if !slices.Equal(a[i].Adds, b[i].Adds) || !slices.Equal(a[i].Drops, b[i].Drops) {
			return false
		}
	}
	return true
}

func sameTiers(t *testing.T, what string, is []api.Tier, e api.Errno, want []api.Tier, wantE api.Errno) {
	t.Helper()
	if e == wantE && alike(is, want) {
		return
	}
	if size(is)+size(want) > 100 {
		t.Errorf("%s: %d tiers of %d pairs and error %d, want %d of %d and %d", what, len(is), size(is), e, len(want), size(want), wantE)
		return
	}
	t.Errorf("%s: %v and error %d, want %v and %d", what, is, e, want, wantE)
}

func sameTier(t *testing.T, what string, is api.Tier, e api.Errno, want api.Tier, wantE api.Errno) {
	t.Helper()
	sameTiers(t, what, []api.Tier{is}, e, []api.Tier{want}, wantE)
}

func samePairs(t *testing.T, what string, is, want []api.Pair) {
	t.Helper()
	sameTiers(t, what, []api.Tier{tier(is, nil)}, 0, []api.Tier{tier(want, nil)}, 0)
}

func size(l []api.Tier) int {
	n := 0
	for _, t := range l {
		n += len(t.Adds) + len(t.Drops)
	}
	return n
}

// allTiers are those of three pairs: each is added, or dropped, or neither.
func allTiers() []api.Tier {
	var out []api.Tier
	for n := range 27 {
		var t api.Tier
		for i, p := range universe() {
			switch n / []int{1, 3, 9}[i] % 3 {
			case 1:
				t.Adds = append(t.Adds, p)
			case 2:
				t.Drops = append(t.Drops, p)
			}
		}
		out = append(out, t)
	}
	return out
}

func universe() []api.Pair {
	return pairs(0, 0, 1, most, most, 0)
}

// rowsOf are all rows of at most so many of these tiers.
func rowsOf(l []api.Tier, most int) [][]api.Tier {
	out := [][]api.Tier{nil}
	for i := 0; i < len(out); i++ {
		if len(out[i]) == most {
			break
		}
		for _, t := range l {
			out = append(out, append(slices.Clone(out[i]), t))
		}
	}
	return out
}

// next is a row of numbers that look like chance, and are the same each time.
func next(x *uint64) uint64 {
	*x ^= *x << 13
	*x ^= *x >> 7
	*x ^= *x << 17
	return *x >> 33
}

// someTiers are so many, of few pairs each.
func someTiers(n int, x *uint64) []api.Tier {
	var out []api.Tier
	for range n {
		said := map[api.Pair]uint64{}
		for range next(x) % 12 {
			said[at(next(x)%4, next(x)%5)] = next(x)
		}
		var t api.Tier
		for p, w := range said {
			if w%2 == 0 {
				t.Adds = append(t.Adds, p)
			} else {
				t.Drops = append(t.Drops, p)
			}
		}
		sorted(t.Adds)
		sorted(t.Drops)
		out = append(out, t)
	}
	return out
}

// manyTiers are rows of all lengths that may be, always the same.
func manyTiers() [][]api.Tier {
	x := uint64(88172645463325252)
	var out [][]api.Tier
	for n := range api.MaxTiers + 1 {
		for range 4 {
			out = append(out, someTiers(n, &x))
		}
	}
	return out
}

// checkAll holds what is asked of tiers that may be against the chapter's words.
func checkAll(t *testing.T, l []api.Tier, probes []api.Pair) {
	t.Helper()
	if e := tiers.Check(l); e != api.OK {
		t.Fatalf("Check(%v): %d", l, e)
	}
	said := words(l)
	for _, p := range probes {
		if tiers.Has(l, p) != said[p] {
			t.Fatalf("Has(%v, %v): %t", l, p, !said[p])
		}
	}
	all := wantOne(true, l...)
	samePairs(t, "Content", tiers.Content(l), all.Adds)
	var want []api.Tier
	if len(all.Adds) > 0 {
		want = []api.Tier{all}
	}
	least, e := tiers.Least(l)
	sameTiers(t, "Least", least, e, want, api.OK)
	for from := -1; from <= len(l)+1; from++ {
		for to := -1; to <= len(l)+1; to++ {
			is, e := tiers.Squash(l, from, to)
			if from < 0 || to > len(l) || from >= to {
				sameTiers(t, "Squash of no part", is, e, nil, api.ErrArg)
				continue
			}
			want := slices.Concat(l[:from], []api.Tier{wantOne(from == 0, l[from:to]...)}, l[to:])
			sameTiers(t, "Squash", is, e, want, api.OK)
			samePairs(t, "Content of what is squashed", tiers.Content(is), all.Adds)
		}
	}
}
