package view_test

import (
	"slices"
	"testing"

	"colander/api"
	"colander/view"
)

func example() []api.Tier {
	return []api.Tier{tier(pairs(1, 1, 2, 2), nil), tier(pairs(3, 3), pairs(1, 1))}
}

// P13.1 to P13.3: the chapter's examples.
func TestExamples(t *testing.T) {
	v := mustView(t, example())
	mustStand(t, "at first", v, pairs(2, 2, 3, 3))
	must(t, "Seek 2 9", v.Seek(at(2, 9)), api.OK)
	mustStand(t, "behind Seek 2 9", v, pairs(3, 3))
	must(t, "Seek 1 1", v.Seek(at(1, 1)), api.OK)
	mustStand(t, "behind Seek 1 1", v, pairs(3, 3))
	must(t, "Next", v.Next(), api.OK)
	mustStand(t, "at the end", v, nil)
	must(t, "Next at the end", v.Next(), api.ErrNone)
}

// P13.1
func TestOfNoTiers(t *testing.T) {
	for why, l := range noTiers() {
		v, e := view.Of(l)
		if v != nil || e != api.ErrTier {
			t.Errorf("Of, %s: %v, error %d", why, v, e)
		}
	}
}

// P13.1: where a view stands at first.
func TestOf(t *testing.T) {
	full := many(api.MaxRun, 1)
	for what, c := range map[string]struct {
		l    []api.Tier
		want []api.Pair
	}{
		"no tiers":                     {nil, nil},
		"none, of a list":              {[]api.Tier{}, nil},
		"one that is empty":            {[]api.Tier{{}}, nil},
		"as many as may be, all empty": {make([]api.Tier, api.MaxTiers), nil},
		"one pair":                     {[]api.Tier{tier(pairs(0, 0), nil)}, pairs(0, 0)},
		"the least and the greatest":   {[]api.Tier{tier(pairs(0, 0, most, most), nil)}, pairs(0, 0, most, most)},
		"in order of A, then of B":     {[]api.Tier{tier(pairs(1, 9, 2, 0), nil), tier(pairs(1, 10, 3, 0), nil), tier(pairs(0, most, 2, 1), nil)}, pairs(0, most, 1, 9, 1, 10, 2, 0, 2, 1, 3, 0)},
		"drops alone":                  {[]api.Tier{tier(nil, pairs(1, 1, 2, 2))}, nil},
		"added by all":                 {slices.Repeat([]api.Tier{tier(pairs(4, 4), nil)}, api.MaxTiers), pairs(4, 4)},
		"dropped by the newest":        {append(slices.Repeat([]api.Tier{tier(pairs(4, 4), nil)}, api.MaxTiers-1), tier(nil, pairs(4, 4))), nil},
		"dropped by all but the last":  {append(slices.Repeat([]api.Tier{tier(nil, pairs(4, 4))}, api.MaxTiers-1), tier(pairs(4, 4), nil)), pairs(4, 4)},
		"dropped by the oldest alone":  {[]api.Tier{tier(pairs(2, 2), pairs(1, 1)), tier(pairs(1, 1), nil)}, pairs(1, 1, 2, 2)},
		"added, dropped, added":        {[]api.Tier{tier(pairs(1, 1), nil), tier(nil, pairs(1, 1)), tier(pairs(1, 1), nil)}, pairs(1, 1)},
		"dropped, added, dropped":      {[]api.Tier{tier(nil, pairs(1, 1)), tier(pairs(1, 1), nil), tier(nil, pairs(1, 1))}, nil},
		"what was not there, dropped":  {[]api.Tier{tier(pairs(1, 1, 3, 3), nil), tier(nil, pairs(0, 0, 2, 2, 4, 4))}, pairs(1, 1, 3, 3)},
		"the last ones dropped":        {[]api.Tier{tier(pairs(1, 1, 2, 2, 3, 3), nil), tier(nil, pairs(2, 2, 3, 3))}, pairs(1, 1)},
		"as many as may be":            {[]api.Tier{tier(full, nil)}, full},
		"as many as may be, but one":   {[]api.Tier{tier(full, nil), tier(nil, full[:api.MaxRun-1])}, full[api.MaxRun-1:]},
		"as many as may be, dropped":   {[]api.Tier{tier(full, nil), tier(nil, full)}, nil},
		"more than a run":              {[]api.Tier{tier(full, pairs(0, 0)), tier(pairs(0, 0, most, most), nil)}, slices.Concat(pairs(0, 0), full, pairs(most, most))},
	} {
		mustStand(t, what, mustView(t, c.l), c.want)
	}
}

// P13.1 to P13.3: of a nil view.
func TestNil(t *testing.T) {
	var v *view.View
	mustStand(t, "nil", v, nil)
	must(t, "Next of nil", v.Next(), api.ErrNil)
	for _, p := range pairs(0, 0, 1, 1, most, most) {
		must(t, "Seek of nil", v.Seek(p), api.ErrNil)
	}
	if c := v.Copy(); c != nil {
		t.Errorf("Copy of nil: %v", c)
	}
}

// R1: a view that nobody made stands at the end, and nothing panics.
func TestNobodysView(t *testing.T) {
	v := new(view.View)
	mustStand(t, "nobody's", v, nil)
	must(t, "Next", v.Next(), api.ErrNone)
	must(t, "Seek", v.Seek(at(0, 0)), api.OK)
	mustStand(t, "a copy of nobody's", v.Copy(), nil)
}

// P13.2: at the end all stays as it is; Next tells that, Seek does not.
func TestAtTheEnd(t *testing.T) {
	for what, l := range map[string][]api.Tier{
		"no tiers": nil,
		"dropped":  {tier(pairs(1, 1), nil), tier(nil, pairs(1, 1))},
		"example":  example(),
	} {
		v := mustView(t, l)
		for range content(l) {
			must(t, what+", Next", v.Next(), api.OK)
		}
		for _, p := range pairs(0, 0, 1, 1, 2, 2, most, most) {
			must(t, what+", Seek at the end", v.Seek(p), api.OK)
			mustStand(t, what, v, nil)
			must(t, what+", Next at the end", v.Next(), api.ErrNone)
			mustStand(t, what, v, nil)
			mustStand(t, what+", a copy", v.Copy(), nil)
		}
	}
}

// P13.2: what is sought is there, was dropped, was never there; it is ahead of where the view stands, or right there.
func TestSeek(t *testing.T) {
	l := []api.Tier{
		tier(pairs(1, 1, 1, 5, 2, 3, 4, 4, 5, 5), nil),
		tier(pairs(1, 3, 6, 6), pairs(1, 5, 4, 4)),
		tier(pairs(4, 4, 7, 0), pairs(2, 3, 6, 6)),
	}
	all := pairs(1, 1, 1, 3, 4, 4, 5, 5, 7, 0)
	if !slices.Equal(content(l), all) {
		t.Fatalf("%v", content(l))
	}
	for from := range len(all) + 1 {
		for _, c := range []struct {
			p  api.Pair
			to int
		}{
			{at(0, 0), 0}, {at(0, most), 0}, {at(1, 0), 0}, {at(1, 1), 0},
			{at(1, 2), 1}, {at(1, 3), 1},
			{at(1, 4), 2}, {at(1, 5), 2}, {at(1, most), 2}, {at(2, 0), 2}, {at(2, 3), 2}, {at(3, 9), 2}, {at(4, 4), 2},
			{at(4, 5), 3}, {at(5, 5), 3},
			{at(5, 6), 4}, {at(6, 6), 4}, {at(6, most), 4}, {at(7, 0), 4},
			{at(7, 1), 5}, {at(8, 0), 5}, {at(most, 0), 5}, {at(most, most), 5},
		} {
			v := mustView(t, l)
			for range from {
				must(t, "Next", v.Next(), api.OK)
			}
			must(t, "Seek", v.Seek(c.p), api.OK)
			mustStand(t, "behind Seek", v, all[max(from, c.to):])
			must(t, "Seek again", v.Seek(c.p), api.OK)
			mustStand(t, "behind Seek again", v, all[max(from, c.to):])
		}
	}
}

// P13.2: behind the greatest pair is the end, though no pair could be sought for there.
func TestGreatest(t *testing.T) {
	l := []api.Tier{tier(pairs(0, 0, most, most-1, most, most), nil), tier(pairs(most, most), pairs(most, most-1))}
	v := mustView(t, l)
	must(t, "Seek", v.Seek(at(most, most)), api.OK)
	mustStand(t, "at the greatest", v, pairs(most, most))
	must(t, "Next", v.Next(), api.OK)
	mustStand(t, "behind the greatest", v, nil)
	v = mustView(t, append(l, tier(nil, pairs(most, most))))
	must(t, "Seek of what is dropped", v.Seek(at(most, most)), api.OK)
	mustStand(t, "behind the greatest, dropped", v, nil)
}

// P13.2: seeking goes any way, near and far, in rows as long as may be.
func TestSeekFar(t *testing.T) {
	full := many(api.MaxRun, 0)
	l := []api.Tier{tier(full, nil), tier(nil, full[5000:900000]), tier(full[6000:6002], nil)}
	all := slices.Concat(full[:5000], full[6000:6002], full[900000:])
	for _, leap := range []int{1, 2, 3, 7, 100, 1023, 1024, 1025, 4096, 65537, 899999, api.MaxRun - 1} {
		v := mustView(t, l)
		to := 0
		for i := leap; i < len(full); i += max(leap, 911) {
			must(t, "Seek", v.Seek(full[i]), api.OK)
			for to < len(all) && ahead(all[to], full[i]) {
				to++
			}
			mustBeAt(t, "behind Seek", v, all[to:])
		}
		must(t, "Seek", v.Seek(full[api.MaxRun-1]), api.OK)
		mustStand(t, "at the last one", v, full[api.MaxRun-1:])
	}
}

// P13.3: what is done to one of both changes nothing of the other one, wherever they stand.
func TestCopy(t *testing.T) {
	l := example()
	l = append(l, tier(pairs(2, 7, 5, 5, 9, 9), pairs(4, 4)), tier(pairs(4, 4), pairs(5, 5)))
	all := content(l)
	for from := range len(all) + 1 {
		v := mustView(t, l)
		for range from {
			must(t, "Next", v.Next(), api.OK)
		}
		c := v.Copy()
		if c == v {
			t.Fatal("a copy is the view itself")
		}
		mustStand(t, "a copy", c, all[from:])
		for i := from; i < len(all); i++ {
			must(t, "Next of the view", v.Next(), api.OK)
			mustStand(t, "a copy, the view going on", c, all[from:])
			mustStand(t, "the view", v, all[i+1:])
		}
		other := c.Copy()
		must(t, "Seek of the copy", c.Seek(at(most, most)), api.OK)
		mustStand(t, "the copy", c, nil)
		mustStand(t, "a copy of the copy", other, all[from:])
		for i := from; i < len(all); i++ {
			must(t, "Next of a copy of the copy", other.Next(), api.OK)
			mustStand(t, "a copy of the copy", other, all[i+1:])
		}
		mustStand(t, "the view, behind it all", v, nil)
	}
}
