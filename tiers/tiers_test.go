package tiers_test

import (
	"slices"
	"testing"

	"colander/api"
	"colander/tiers"
)

func example() []api.Tier {
	return []api.Tier{tier(pairs(1, 1, 2, 2), nil), tier(pairs(3, 3), pairs(1, 1))}
}

// P11.2 to P11.4: the chapter's examples.
func TestExamples(t *testing.T) {
	l := example()
	samePairs(t, "Content", tiers.Content(l), pairs(2, 2, 3, 3))
	if tiers.Has(l, at(1, 1)) {
		t.Error("Has what is dropped")
	}
	m, e := tiers.Push(l, pairs(1, 1), nil)
	sameTiers(t, "Push", m, e, append(example(), tier(pairs(1, 1), nil)), api.OK)
	samePairs(t, "Content of what is pushed", tiers.Content(m), pairs(1, 1, 2, 2, 3, 3))
	m, e = tiers.Squash(l, 0, 2)
	sameTiers(t, "Squash of all", m, e, []api.Tier{tier(pairs(2, 2, 3, 3), nil)}, api.OK)
	m, e = tiers.Squash(l, 1, 2)
	sameTiers(t, "Squash of one", m, e, l, api.OK)
	m, e = tiers.Push(l, pairs(5, 5), pairs(5, 5))
	sameTiers(t, "Push of both", m, e, nil, api.ErrArg)
	m, e = tiers.Squash(l, 1, 1)
	sameTiers(t, "Squash of none", m, e, nil, api.ErrArg)
}

// P11.1
func TestCheck(t *testing.T) {
	fine := [][]api.Tier{
		nil, {}, {{}}, make([]api.Tier, api.MaxTiers), example(),
		{tier(nil, pairs(1, 1))}, {tier([]api.Pair{}, []api.Pair{})},
		{tier(pairs(0, 0, most, most), pairs(0, most, most, 0))},
		{tier(pairs(1, 1), nil), tier(pairs(1, 1), nil), tier(nil, pairs(1, 1)), tier(nil, pairs(1, 1))},
		{tier(many(api.MaxRun, 0), many(api.MaxRun, 5000))},
	}
	for _, l := range fine {
		if e := tiers.Check(l); e != api.OK {
			t.Errorf("Check of %d tiers, %d pairs: %d", len(l), size(l), e)
		}
	}
	for why, l := range noTiers() {
		if e := tiers.Check(l); e != api.ErrTier {
			t.Errorf("Check, %s: %d", why, e)
		}
	}
	full := many(api.MaxRun, 0)
	if e := tiers.Check([]api.Tier{tier(full, full[api.MaxRun-1:])}); e != api.ErrTier {
		t.Errorf("Check of the last one of as many as may be, dropped: %d", e)
	}
}

// P11.1: all tiers of rows of at most three of four pairs, against the chapter's words.
func TestCheckAll(t *testing.T) {
	rows := [][]api.Pair{nil}
	for i := 0; i < len(rows) && len(rows[i]) < 3; i++ {
		for _, p := range pairs(0, 0, 0, most, 1, 0, most, 1) {
			rows = append(rows, append(slices.Clone(rows[i]), p))
		}
	}
	for _, adds := range rows {
		for _, drops := range rows {
			l := []api.Tier{tier(adds, drops)}
			if e := tiers.Check(l); (e == api.OK) != mayBe(l) || e != api.OK && e != api.ErrTier {
				t.Errorf("Check(%v): %d", l, e)
			}
		}
	}
}

// P11.1
func TestSame(t *testing.T) {
	rows := [][]api.Tier{
		nil, {{}}, {{}, {}}, example(), example()[:1], example()[1:],
		{tier(pairs(1, 1), nil)}, {tier(nil, pairs(1, 1))}, {tier(pairs(1, 1), nil), {}}, {{}, tier(pairs(1, 1), nil)},
		{tier(pairs(1, 1), pairs(2, 2))}, {tier(pairs(2, 2), pairs(1, 1))}, {tier(pairs(1, 1), nil), tier(nil, pairs(2, 2))},
		{tier(pairs(1, 2), nil)}, {tier(pairs(2, 1), nil)},
	}
	for _, why := range []string{"adds: twice", "drops: twice", "adds: falling A", "one too many", "one too many, of empty", "together"} {
		rows = append(rows, noTiers()[why])
	}
	for i, a := range rows {
		for j, b := range rows {
			if tiers.Same(a, kept(b)) != (i == j) {
				t.Errorf("Same(%v, %v): %t", a, b, i != j)
			}
		}
	}
	if !tiers.Same(nil, []api.Tier{}) || !tiers.Same([]api.Tier{{}}, []api.Tier{tier([]api.Pair{}, []api.Pair{})}) {
		t.Error("nil and empty are not the same")
	}
}

// P11.2 to P11.5: all rows of at most two tiers of three pairs, and rows of all lengths, against the chapter's words.
func TestAgainstWords(t *testing.T) {
	for _, l := range rowsOf(allTiers(), 2) {
		checkAll(t, l, append(universe(), pairs(0, 1, 1, 0, most, most, 1, most-1)...))
	}
	for _, l := range manyTiers() {
		checkAll(t, l, pairs(0, 0, 0, 1, 1, 4, 2, 2, 3, 3, 3, 4, 3, 5, 4, 0))
	}
}

// P11.2
func TestHas(t *testing.T) {
	l := []api.Tier{tier(pairs(1, 1, 2, 2, 3, 3), nil), tier(pairs(4, 4), pairs(1, 1, 2, 2)), {}, tier(pairs(1, 1), pairs(4, 4, 9, 9))}
	for p, want := range map[api.Pair]bool{
		at(1, 1): true, at(2, 2): false, at(3, 3): true, at(4, 4): false, at(9, 9): false, at(0, 0): false, at(1, 2): false, at(most, most): false,
	} {
		if tiers.Has(l, p) != want {
			t.Errorf("Has(%v): %t", p, !want)
		}
	}
	samePairs(t, "Content", tiers.Content(l), pairs(1, 1, 3, 3))
	if tiers.Has(nil, at(0, 0)) || len(tiers.Content(nil)) != 0 {
		t.Error("no tiers have something")
	}
	full := []api.Tier{tier(many(api.MaxRun, 0), nil), tier(nil, pairs(1023, 1023))}
	if !tiers.Has(full, at(0, 0)) || !tiers.Has(full, at(1023, 1022)) || tiers.Has(full, at(1023, 1023)) || tiers.Has(full, at(1024, 0)) {
		t.Error("Has of as many as may be")
	}
}

// P11.2: what comes of tiers is in order, and all of it, though it be more than one run holds.
func TestContentOfMany(t *testing.T) {
	full, more := many(api.MaxRun, 1), many(api.MaxRun, 2000)
	samePairs(t, "as many as may be", tiers.Content([]api.Tier{tier(full, nil)}), full)
	samePairs(t, "as many as may be, twice", tiers.Content([]api.Tier{tier(full, nil), tier(full, nil)}), full)
	samePairs(t, "all dropped", tiers.Content([]api.Tier{tier(full, nil), tier(nil, full)}), nil)
	samePairs(t, "two of them", tiers.Content([]api.Tier{tier(more, nil), tier(full, nil)}), slices.Concat(full, more))
}

// P11.1 to P11.5: tiers that may not be are told ahead of all else; what tells no error tells nothing.
func TestNoTiers(t *testing.T) {
	for why, l := range noTiers() {
		p := at(1, 1)
		if tiers.Has(l, p) || len(tiers.Content(l)) != 0 {
			t.Errorf("%s: something is there", why)
		}
		for _, adds := range [][]api.Pair{nil, pairs(5, 5), pairs(2, 3, 1, 5)} {
			m, e := tiers.Push(l, adds, pairs(5, 5))
			sameTiers(t, "Push, "+why, m, e, nil, api.ErrTier)
		}
		for from := -1; from < 3; from++ {
			for to := -1; to < 4; to++ {
				m, e := tiers.Squash(l, from, to)
				sameTiers(t, "Squash, "+why, m, e, nil, api.ErrTier)
			}
		}
		m, e := tiers.Least(l)
		sameTiers(t, "Least, "+why, m, e, nil, api.ErrTier)
	}
	bad := []api.Tier{tier(pairs(1, 1), pairs(1, 1))}
	full := tier(many(api.MaxRun, 0), nil)
	for _, l := range noRuns() {
		bad = append(bad, tier(l, nil), tier(nil, l))
	}
	for _, x := range bad {
		for _, other := range []api.Tier{{}, tier(pairs(9, 9), nil), full, x} {
			for _, oldest := range []bool{true, false} {
				m, e := tiers.Join(x, other, oldest)
				sameTier(t, "Join, the older one", m, e, api.Tier{}, api.ErrTier)
				m, e = tiers.Join(other, x, oldest)
				sameTier(t, "Join, the newer one", m, e, api.Tier{}, api.ErrTier)
			}
		}
	}
}
