package tiers_test

import (
	"slices"
	"testing"

	"colander/api"
	"colander/tiers"
)

// P11.3
func TestPush(t *testing.T) {
	for _, l := range rowsOf(allTiers(), 1) {
		for _, x := range allTiers() {
			m, e := tiers.Push(l, x.Adds, x.Drops)
			sameTiers(t, "Push", m, e, append(slices.Clone(l), x), api.OK)
		}
	}
	full := slices.Repeat(example(), api.MaxTiers/2)
	m, e := tiers.Push(full[1:], pairs(7, 7), pairs(8, 8))
	sameTiers(t, "Push, the last one that may be", m, e, append(slices.Clone(full[1:]), tier(pairs(7, 7), pairs(8, 8))), api.OK)
	m, e = tiers.Push(full, pairs(7, 7), nil)
	sameTiers(t, "Push, one too many", m, e, nil, api.ErrFull)
	m, e = tiers.Push(full, nil, nil)
	sameTiers(t, "Push of nothing, one too many", m, e, nil, api.ErrFull)
	m, e = tiers.Push(nil, nil, nil)
	sameTiers(t, "Push of nothing", m, e, []api.Tier{{}}, api.OK)
	most := many(api.MaxRun, 0)
	m, e = tiers.Push(nil, most, many(api.MaxRun, 5000))
	sameTiers(t, "Push of as many pairs as may be", m, e, []api.Tier{tier(most, many(api.MaxRun, 5000))}, api.OK)
}

// P11.3: what is no run ahead of what is together, and that ahead of what is full.
func TestPushWrong(t *testing.T) {
	full := make([]api.Tier, api.MaxTiers)
	for _, l := range [][]api.Tier{nil, example(), full} {
		for why, x := range noRuns() {
			for _, other := range [][]api.Pair{nil, pairs(1, 5), x} {
				m, e := tiers.Push(l, x, other)
				sameTiers(t, "Push, adds: "+why, m, e, nil, api.ErrRun)
				m, e = tiers.Push(l, other, x)
				sameTiers(t, "Push, drops: "+why, m, e, nil, api.ErrRun)
			}
		}
		m, e := tiers.Push(l, pairs(0, 0, 1, 1, 5, 5), pairs(1, 0, 5, 5))
		sameTiers(t, "Push of both", m, e, nil, api.ErrArg)
		m, e = tiers.Push(l, pairs(0, 0), pairs(0, 0, 1, 1))
		sameTiers(t, "Push of both 0", m, e, nil, api.ErrArg)
	}
}

// P11.4
func TestJoin(t *testing.T) {
	for _, older := range allTiers() {
		for _, newer := range allTiers() {
			for _, oldest := range []bool{true, false} {
				m, e := tiers.Join(older, newer, oldest)
				sameTier(t, "Join", m, e, wantOne(oldest, older, newer), api.OK)
			}
		}
	}
	older, newer := tier(pairs(1, 1, 2, 2), pairs(3, 3, 4, 4)), tier(pairs(3, 3, 5, 5), pairs(1, 1, 6, 6))
	m, e := tiers.Join(older, newer, false)
	sameTier(t, "Join", m, e, tier(pairs(2, 2, 3, 3, 5, 5), pairs(1, 1, 4, 4, 6, 6)), api.OK)
	m, e = tiers.Join(older, newer, true)
	sameTier(t, "Join as the oldest ones", m, e, tier(pairs(2, 2, 3, 3, 5, 5), nil), api.OK)
}

// P11.4: the limit is of what comes, of adds and of drops each, and of no drops of the oldest ones.
func TestJoinLimit(t *testing.T) {
	full, end, behind := many(api.MaxRun, 1), many(api.MaxRun, 1)[api.MaxRun-1:], pairs(most, most)
	cases := []struct {
		what         string
		older, newer api.Tier
		one          api.Tier
		e, oldestE   api.Errno
	}{
		{"as many adds as may be", tier(full[:api.MaxRun-1], nil), tier(end, nil), tier(full, nil), api.OK, api.OK},
		{"one too many", tier(full, nil), tier(behind, nil), api.Tier{}, api.ErrFull, api.ErrFull},
		{"one for another", tier(full, nil), tier(behind, end), tier(append(slices.Clone(full[:api.MaxRun-1]), behind...), end), api.OK, api.OK},
		{"as many drops as may be", tier(nil, full[1:]), tier(nil, full[:1]), tier(nil, full), api.OK, api.OK},
		{"one drop too many", tier(pairs(0, 0), full), tier(nil, behind), tier(pairs(0, 0), nil), api.ErrFull, api.OK},
	}
	for _, c := range cases {
		for _, oldest := range []bool{true, false} {
			want, e := c.one, c.e
			if oldest {
				want.Drops, e = nil, c.oldestE
			}
			if e != api.OK {
				want = api.Tier{}
			}
			m, is := tiers.Join(c.older, c.newer, oldest)
			sameTier(t, c.what, m, is, want, e)
		}
	}
}

// P11.4
func TestSquash(t *testing.T) {
	l := []api.Tier{tier(pairs(1, 1), pairs(2, 2)), tier(pairs(2, 2), pairs(1, 1)), tier(pairs(3, 3), pairs(4, 4)), tier(nil, pairs(3, 3))}
	cases := []struct {
		from, to int
		want     []api.Tier
	}{
		{0, 1, []api.Tier{tier(pairs(1, 1), nil), l[1], l[2], l[3]}},
		{0, 2, []api.Tier{tier(pairs(2, 2), nil), l[2], l[3]}},
		{0, 4, []api.Tier{tier(pairs(2, 2), nil)}},
		{1, 3, []api.Tier{l[0], tier(pairs(2, 2, 3, 3), pairs(1, 1, 4, 4)), l[3]}},
		{1, 4, []api.Tier{l[0], tier(pairs(2, 2), pairs(1, 1, 3, 3, 4, 4))}},
		{2, 3, l}, {3, 4, l},
	}
	for _, c := range cases {
		m, e := tiers.Squash(l, c.from, c.to)
		sameTiers(t, "Squash", m, e, c.want, api.OK)
	}
	for _, c := range [][2]int{{-1, 1}, {-1, 4}, {0, 5}, {4, 5}, {0, 0}, {4, 4}, {2, 1}, {3, 0}, {0, -1}, {5, 6}, {1 << 62, 4}, {0, 1 << 62}, {-1 << 62, -1 << 61}} {
		m, e := tiers.Squash(l, c[0], c[1])
		sameTiers(t, "Squash of no part", m, e, nil, api.ErrArg)
	}
	m, e := tiers.Squash(nil, 0, 0)
	sameTiers(t, "Squash of no tiers", m, e, nil, api.ErrArg)
	m, e = tiers.Squash(nil, 0, 1)
	sameTiers(t, "Squash of more than none", m, e, nil, api.ErrArg)
	gone := []api.Tier{tier(pairs(1, 1), nil), tier(nil, pairs(1, 1))}
	m, e = tiers.Squash(gone, 0, 2)
	sameTiers(t, "Squash to nothing", m, e, []api.Tier{{}}, api.OK)
}

// P11.4: the limit is of all of them as one, not of the first two.
func TestSquashLimit(t *testing.T) {
	full, behind := many(api.MaxRun, 1), pairs(most, most)
	l := []api.Tier{tier(full, nil), tier(behind, nil), tier(nil, behind)}
	m, e := tiers.Squash(l, 0, 2)
	sameTiers(t, "one too many", m, e, nil, api.ErrFull)
	m, e = tiers.Squash(l, 0, 3)
	sameTiers(t, "one too many, and dropped", m, e, l[:1], api.OK)
	l = []api.Tier{tier(nil, full), {}, tier(nil, behind)}
	m, e = tiers.Squash(l, 0, 3)
	sameTiers(t, "drops of the oldest", m, e, []api.Tier{{}}, api.OK)
	l = []api.Tier{{}, tier(nil, full), tier(nil, behind)}
	m, e = tiers.Squash(l, 1, 3)
	sameTiers(t, "one drop too many", m, e, nil, api.ErrFull)
	m, e = tiers.Squash(l, 2, 3)
	sameTiers(t, "each alone", m, e, l, api.OK)
}

// P11.5
func TestLeast(t *testing.T) {
	full, behind := many(api.MaxRun, 1), pairs(most, most)
	cases := []struct {
		l, want []api.Tier
		e       api.Errno
	}{
		{nil, nil, api.OK}, {[]api.Tier{{}}, nil, api.OK}, {make([]api.Tier, api.MaxTiers), nil, api.OK},
		{example(), []api.Tier{tier(pairs(2, 2, 3, 3), nil)}, api.OK},
		{[]api.Tier{tier(nil, pairs(1, 1))}, nil, api.OK},
		{[]api.Tier{tier(pairs(1, 1), nil), tier(nil, pairs(1, 1))}, nil, api.OK},
		{[]api.Tier{tier(nil, pairs(1, 1)), tier(pairs(1, 1), nil)}, []api.Tier{tier(pairs(1, 1), nil)}, api.OK},
		{[]api.Tier{tier(full, nil), tier(full, behind)}, []api.Tier{tier(full, nil)}, api.OK},
		{[]api.Tier{tier(full, nil), tier(behind, nil)}, nil, api.ErrFull},
		{[]api.Tier{tier(behind, full), tier(nil, pairs(0, 0))}, []api.Tier{tier(behind, nil)}, api.OK},
	}
	for _, c := range cases {
		m, e := tiers.Least(c.l)
		sameTiers(t, "Least", m, e, c.want, c.e)
	}
}
