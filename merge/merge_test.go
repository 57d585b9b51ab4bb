package merge_test

import (
	"math"
	"slices"
	"testing"

	"colander/api"
	"colander/merge"
)

func exampleTiers() (api.Tier, api.Tier) {
	return tier(pairs(1, 1, 2, 2), pairs(3, 3)), tier(pairs(3, 3), pairs(1, 1))
}

// example is the chapter's merge, of which so many steps have been done.
func example(done int) api.Merge {
	older, newer := exampleTiers()
	return merging(older, newer, false, done, wantOut(older, newer, false, done))
}

// P12.1 to P12.4: the chapter's examples.
func TestExamples(t *testing.T) {
	older, newer := exampleTiers()
	m, e := merge.Begin(older, newer, false)
	sameMerge(t, "Begin", m, e, merging(older, newer, false, 0, api.Tier{}), api.OK)
	if n := merge.Left(m); n != 3 {
		t.Errorf("Left: %d", n)
	}
	m2, n, e := merge.Step(m, 2)
	sameMerge(t, "Step 2", m2, e, merging(older, newer, false, 2, tier(pairs(2, 2), pairs(1, 1))), api.OK)
	if n != 2 || merge.Left(m2) != 1 {
		t.Errorf("Step 2: %d done, %d left", n, merge.Left(m2))
	}
	m3, n, e := merge.Step(m2, 9)
	sameMerge(t, "Step 9", m3, e, merging(older, newer, false, 3, tier(pairs(2, 2, 3, 3), pairs(1, 1))), api.OK)
	if n != 1 || merge.Left(m3) != 0 {
		t.Errorf("Step 9: %d done, %d left", n, merge.Left(m3))
	}
	x, e := merge.End(m3)
	sameTier(t, "End", x, e, tier(pairs(2, 2, 3, 3), pairs(1, 1)), api.OK)
	m, _ = merge.Begin(older, newer, true)
	m, _, _ = merge.Step(m, 3)
	x, e = merge.End(m)
	sameTier(t, "End, as the oldest", x, e, tier(pairs(2, 2, 3, 3), nil), api.OK)
	bad, n, e := merge.Step(example(0), -1)
	sameMerge(t, "Step -1", bad, e, api.Merge{}, api.ErrArg)
	if n != 0 {
		t.Errorf("Step -1: %d done", n)
	}
	x, e = merge.End(example(0))
	sameTier(t, "End at its beginning", x, e, api.Tier{}, api.ErrOpen)
}

// P12.1
func TestBegin(t *testing.T) {
	older, newer := exampleTiers()
	for why, no := range noTiers() {
		for _, oldest := range []bool{true, false} {
			m, e := merge.Begin(no, newer, oldest)
			sameMerge(t, "the older one, "+why, m, e, api.Merge{}, api.ErrTier)
			m, e = merge.Begin(older, no, oldest)
			sameMerge(t, "the newer one, "+why, m, e, api.Merge{}, api.ErrTier)
		}
	}
	full := many(api.MaxRun, 0)
	m, e := merge.Begin(tier(full, full[:1]), tier(many(api.MaxRun, 3000), nil), true)
	sameMerge(t, "no tier, and too many pairs", m, e, api.Merge{}, api.ErrTier)
	// Each tier may be alone: it is not the other's words that count.
	m, e = merge.Begin(tier(pairs(1, 1), nil), tier(nil, pairs(1, 1)), true)
	sameMerge(t, "added and dropped", m, e, merging(tier(pairs(1, 1), nil), tier(nil, pairs(1, 1)), true, 0, api.Tier{}), api.OK)
	m, e = merge.Begin(api.Tier{}, api.Tier{}, false)
	sameMerge(t, "nothing", m, e, api.Merge{}, api.OK)
}

// P12.1: as many pairs as may be, and one more, wherever they are.
func TestBeginFull(t *testing.T) {
	const half = api.MaxRun / 2
	full, other := many(api.MaxRun, 0), many(half, 5000)
	last := pairs(most, most)
	for what, c := range map[string]struct {
		older, newer api.Tier
		e            api.Errno
	}{
		"all added":                  {tier(full, nil), api.Tier{}, api.OK},
		"all dropped by the newer":   {api.Tier{}, tier(nil, full), api.OK},
		"all by both":                {tier(full, nil), tier(nil, full), api.OK},
		"half each":                  {tier(full[:half], nil), tier(other, nil), api.OK},
		"half each, half of them":    {tier(full[:half], other), tier(other, full[:half]), api.OK},
		"one more added":             {tier(full, nil), tier(last, nil), api.ErrFull},
		"one more dropped":           {tier(full, nil), tier(nil, last), api.ErrFull},
		"one more dropped before":    {tier(nil, last), tier(full, nil), api.ErrFull},
		"one more in the older tier": {tier(full, last), api.Tier{}, api.ErrFull},
		"one more in the newer tier": {api.Tier{}, tier(last, full), api.ErrFull},
		"half each, and one more":    {tier(full[:half], last), tier(other, full[:half]), api.ErrFull},
	} {
		for _, oldest := range []bool{true, false} {
			m, e := merge.Begin(c.older, c.newer, oldest)
			want := merging(c.older, c.newer, oldest, 0, api.Tier{})
			if c.e != api.OK {
				if e := merge.Check(want); e != api.ErrMerge {
					t.Errorf("%s: Check: %d", what, e)
				}
				want = api.Merge{}
			}
			sameMerge(t, what, m, e, want, c.e)
		}
	}
}

// noMerges are what may not be, each with a reason; the tiers of most of them are the example's.
func noMerges() map[string]api.Merge {
	older, newer := exampleTiers()
	full := many(api.MaxRun, 0)
	out := map[string]api.Merge{
		"at -1":                  merging(older, newer, false, -1, api.Tier{}),
		"at the least":           merging(older, newer, false, math.MinInt, api.Tier{}),
		"at one more":            merging(older, newer, false, 4, wantOut(older, newer, false, 3)),
		"at the most":            merging(older, newer, false, math.MaxInt, wantOut(older, newer, false, 3)),
		"at one more of nothing": merging(api.Tier{}, api.Tier{}, false, 1, api.Tier{}),
		"one step behind":        merging(older, newer, false, 1, wantOut(older, newer, false, 2)),
		"one step ahead":         merging(older, newer, false, 3, wantOut(older, newer, false, 2)),
		"nothing done, some out": merging(older, newer, false, 0, tier(pairs(1, 1), nil)),
		"done, nothing out":      merging(older, newer, false, 3, api.Tier{}),
		"added, not dropped":     merging(older, newer, false, 1, tier(pairs(1, 1), nil)),
		"dropped, not added":     merging(older, newer, false, 2, tier(nil, pairs(1, 1, 2, 2))),
		"both":                   merging(older, newer, false, 1, tier(pairs(1, 1), pairs(1, 1))),
		"not in order":           merging(older, newer, false, 3, tier(pairs(3, 3, 2, 2), pairs(1, 1))),
		"twice":                  merging(older, newer, false, 3, tier(pairs(2, 2, 2, 2, 3, 3), pairs(1, 1))),
		"another pair":           merging(older, newer, false, 3, tier(pairs(2, 2, 3, 4), pairs(1, 1))),
		"a drop of the oldest":   merging(older, newer, true, 3, tier(pairs(2, 2, 3, 3), pairs(1, 1))),
		"no drop of another":     merging(older, newer, false, 3, tier(pairs(2, 2, 3, 3), nil)),
		"what the older one says": merging(older, newer, false, 3,
			tier(pairs(1, 1, 2, 2), pairs(3, 3))),
		"one too many, at the beginning": merging(tier(full, nil), tier(nil, pairs(most, 0)), true, 0, api.Tier{}),
		"one too many, at the end":       merging(tier(full, nil), tier(nil, pairs(most, 0)), true, api.MaxRun+1, tier(full, nil)),
	}
	for why, no := range noTiers() {
		out["the older one, "+why] = merging(no, newer, false, 0, api.Tier{})
		out["the newer one, "+why] = merging(older, no, true, 0, api.Tier{})
		out["what is done, "+why] = merging(older, newer, false, 2, no)
	}
	return out
}

// P12.1 to P12.4: what may not be is told ahead of all else; what tells no error tells nothing.
func TestNoMerges(t *testing.T) {
	for why, m := range noMerges() {
		if e := merge.Check(m); e != api.ErrMerge {
			t.Errorf("Check, %s: %d", why, e)
		}
		if n := merge.Left(m); n != 0 {
			t.Errorf("Left, %s: %d", why, n)
		}
		for _, n := range []int{math.MinInt, -1, 0, 1, math.MaxInt} {
			is, done, e := merge.Step(m, n)
			sameMerge(t, "Step, "+why, is, e, api.Merge{}, api.ErrMerge)
			if done != 0 {
				t.Errorf("Step, %s: %d done", why, done)
			}
		}
		x, e := merge.End(m)
		sameTier(t, "End, "+why, x, e, api.Tier{}, api.ErrMerge)
	}
}

// P12.1: what may be, at the edges.
func TestCheck(t *testing.T) {
	older, newer := exampleTiers()
	full := many(api.MaxRun, 0)
	fine := []api.Merge{
		{}, example(0), example(1), example(2), example(3),
		{Oldest: true}, {Out: tier([]api.Pair{}, []api.Pair{})},
		merging(older, newer, true, 1, api.Tier{}),
		merging(older, newer, true, 3, tier(pairs(2, 2, 3, 3), nil)),
		merging(tier(nil, full), api.Tier{}, true, api.MaxRun, api.Tier{}),
		merging(tier(nil, full), api.Tier{}, true, 77, api.Tier{}),
		merging(tier(full, nil), tier(nil, full), false, api.MaxRun, tier(nil, full)),
		merging(tier(nil, full), tier(full, nil), true, api.MaxRun-1, tier(full[:api.MaxRun-1], nil)),
	}
	for i, m := range fine {
		if e := merge.Check(m); e != api.OK {
			t.Errorf("Check of number %d: %d", i, e)
		}
	}
}

// P12.1
func TestSame(t *testing.T) {
	older, newer := exampleTiers()
	rows := []api.Merge{
		{}, {Oldest: true}, {At: 1}, {At: -1}, example(0), example(1), example(2), example(3),
		merging(newer, older, false, 0, api.Tier{}),
		merging(older, newer, true, 0, api.Tier{}),
		merging(older, api.Tier{}, false, 0, api.Tier{}),
		merging(api.Tier{}, newer, false, 0, api.Tier{}),
		merging(api.Tier{}, older, false, 0, api.Tier{}),
		merging(api.Tier{}, api.Tier{}, false, 0, older),
		merging(api.Tier{}, api.Tier{}, false, 0, tier(older.Adds, nil)),
		merging(api.Tier{}, api.Tier{}, false, 0, tier(nil, older.Adds)),
		merging(tier(older.Adds[:1], older.Drops), newer, false, 0, api.Tier{}),
		merging(older, tier(newer.Adds, nil), false, 0, api.Tier{}),
	}
	for _, why := range []string{"one step behind", "not in order", "both", "twice", "the older one, together", "the newer one, adds, twice", "what is done, drops, falling A"} {
		rows = append(rows, noMerges()[why])
	}
	for i, a := range rows {
		for j, b := range rows {
			if merge.Same(a, keptMerge(b)) != (i == j) {
				t.Errorf("Same(%v, %v): %t", a, b, i != j)
			}
		}
	}
	empty := tier([]api.Pair{}, []api.Pair{})
	if !merge.Same(api.Merge{}, merging(empty, empty, false, 0, empty)) {
		t.Error("nil and empty are not the same")
	}
}

// P12.1 to P12.4: all merges of two tiers of three pairs, each at all its places, against the chapter's words.
func TestAgainstWords(t *testing.T) {
	for _, older := range allTiers() {
		for _, newer := range allTiers() {
			checkAll(t, older, newer, false)
			checkAll(t, older, newer, true)
		}
	}
}

// checkAll holds all calls, at each place of a merge, against the chapter's words.
func checkAll(t *testing.T, older, newer api.Tier, oldest bool) {
	t.Helper()
	all := len(itsPairs(older, newer))
	m, e := merge.Begin(older, newer, oldest)
	sameMerge(t, "Begin", m, e, merging(older, newer, oldest, 0, api.Tier{}), api.OK)
	for from := range all + 1 {
		m := merging(older, newer, oldest, from, wantOut(older, newer, oldest, from))
		if merge.Check(m) != api.OK || merge.Left(m) != all-from {
			t.Fatalf("%v: Check %d, Left %d", m, merge.Check(m), merge.Left(m))
		}
		for _, n := range []int{0, 1, 2, 3, all, math.MaxInt} {
			done := min(n, all-from)
			is, many, e := merge.Step(m, n)
			sameMerge(t, "Step", is, e, merging(older, newer, oldest, from+done, wantOut(older, newer, oldest, from+done)), api.OK)
			if many != done {
				t.Fatalf("Step(%v, %d): %d done", m, n, many)
			}
		}
		is, n, e := merge.Step(m, -1-from)
		sameMerge(t, "Step below 0", is, e, api.Merge{}, api.ErrArg)
		x, e := merge.End(m)
		if from < all {
			sameTier(t, "End, open", x, e, api.Tier{}, api.ErrOpen)
		} else {
			sameTier(t, "End", x, e, m.Out, api.OK)
		}
		if n != 0 {
			t.Fatalf("Step(%v, %d): %d done", m, -1-from, n)
		}
	}
}

// P12.1: of all that could have been done, of all numbers of steps, those alone may be that have come to it.
func TestCheckAll(t *testing.T) {
	few := allTiers()
	for _, older := range few {
		for _, newer := range few[:12] {
			for i, out := range few {
				for _, oldest := range []bool{true, false} {
					done := i%5 - 1
					fine := done >= 0 && done <= len(itsPairs(older, newer)) && alike(out, wantOut(older, newer, oldest, done))
					m := merging(older, newer, oldest, done, out)
					if e := merge.Check(m); (e == api.OK) != fine || e != api.OK && e != api.ErrMerge {
						t.Fatalf("Check(%v): %d", m, e)
					}
				}
			}
		}
	}
}

// P12.2, P12.3: as many steps as may be.
func TestManySteps(t *testing.T) {
	older, newer := many(api.MaxRun, 0), many(api.MaxRun/2, 256)
	m, e := merge.Begin(tier(older, nil), tier(nil, newer), false)
	if e != api.OK || merge.Left(m) != api.MaxRun {
		t.Fatalf("Begin: %d, %d left", e, merge.Left(m))
	}
	for from, to := range map[int]int{0: 1, 1: 262144, 262144: 262145, 262145: api.MaxRun - 1, api.MaxRun - 1: api.MaxRun, api.MaxRun: api.MaxRun} {
		out := func(n int) api.Tier {
			adds := slices.Clone(older[:min(n, 262144)])
			drops := newer[:min(max(n-262144, 0), len(newer))]
			if n > 262144+len(newer) {
				adds = append(adds, older[262144+len(newer):n]...)
			}
			return tier(adds, drops)
		}
		is, n, e := merge.Step(merging(tier(older, nil), tier(nil, newer), false, from, out(from)), to-from)
		sameMerge(t, "Step", is, e, merging(tier(older, nil), tier(nil, newer), false, to, out(to)), api.OK)
		if n != to-from {
			t.Errorf("Step from %d to %d: %d done", from, to, n)
		}
	}
}
