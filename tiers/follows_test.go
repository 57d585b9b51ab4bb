package tiers_test

import (
	"slices"
	"testing"

	"colander/api"
	"colander/run"
	"colander/tiers"
)

// fine tells what has come of tiers as far as it may be.
func fine(t *testing.T, what string, l []api.Tier, e api.Errno) []api.Tier {
	t.Helper()
	if e != api.OK || tiers.Check(l) != api.OK {
		t.Fatalf("%s: %v and error %d may not be", what, l, e)
	}
	return l
}

// P11.6: what is pushed is there, what is dropped is not, all else is as it was.
func TestPushFollows(t *testing.T) {
	for _, l := range manyTiers() {
		if len(l) == api.MaxTiers {
			continue
		}
		x := uint64(len(l)) + 77
		for _, n := range someTiers(6, &x) {
			m, e := tiers.Push(l, n.Adds, n.Drops)
			fine(t, "Push", m, e)
			for a := range uint64(5) {
				for b := range uint64(6) {
					p := at(a, b)
					want := tiers.Has(l, p)
					if run.Has(n.Adds, p) {
						want = true
					} else if run.Has(n.Drops, p) {
						want = false
					}
					if tiers.Has(m, p) != want || run.Has(tiers.Content(m), p) != want {
						t.Fatalf("Push(%v, %v): %v is there: %t", l, n, p, !want)
					}
				}
			}
		}
	}
}

// P11.6: squashing changes nothing of what they come to, however often; Least of Least is Least.
func TestSquashFollows(t *testing.T) {
	x := uint64(4711)
	for _, l := range manyTiers() {
		content := tiers.Content(l)
		least, e := tiers.Least(l)
		fine(t, "Least", least, e)
		again, e := tiers.Least(least)
		sameTiers(t, "Least of Least", again, e, least, api.OK)
		samePairs(t, "Content of Least", tiers.Content(least), content)
		for len(l) > 1 {
			from := int(next(&x)) % (len(l) - 1)
			to := from + 1 + int(next(&x))%(len(l)-from)
			m, e := tiers.Squash(l, from, to)
			fine(t, "Squash", m, e)
			if len(m) != len(l)-(to-from)+1 {
				t.Fatalf("Squash(%v, %d, %d): %v", l, from, to, m)
			}
			samePairs(t, "Content of what is squashed", tiers.Content(m), content)
			last, e := tiers.Least(m)
			sameTiers(t, "Least of what is squashed", last, e, least, api.OK)
			if l = m; from+1 == to {
				l, _ = tiers.Squash(m, 0, 2)
			}
		}
	}
}

// P11.6: three as one are the same, whichever two go first.
func TestThreeAsOne(t *testing.T) {
	x := uint64(1)
	l := append(someTiers(14, &x), allTiers()[:14]...)
	for _, a := range l {
		for _, b := range l {
			for _, c := range l {
				for _, oldest := range []bool{true, false} {
					first, e := tiers.Join(a, b, oldest)
					fine(t, "the first two", []api.Tier{first}, e)
					first, e = tiers.Join(first, c, oldest)
					last, e2 := tiers.Join(b, c, false)
					fine(t, "the last two", []api.Tier{last}, e2)
					last, e2 = tiers.Join(a, last, oldest)
					sameTier(t, "three as one", first, e, last, e2)
				}
			}
		}
	}
}

// P11.4, P11.6: a join of two is what squashing does.
func TestJoinIsSquash(t *testing.T) {
	for _, l := range rowsOf(allTiers(), 2) {
		if len(l) < 2 {
			continue
		}
		as := func(oldest bool) []api.Tier {
			m, e := tiers.Join(l[0], l[1], oldest)
			return fine(t, "Join", []api.Tier{m}, e)
		}
		m, e := tiers.Squash(l, 0, 2)
		sameTiers(t, "Squash as the oldest", m, e, as(true), api.OK)
		m, e = tiers.Squash(slices.Insert(slices.Clone(l), 0, api.Tier{}), 1, 3)
		sameTiers(t, "Squash", m, e, append([]api.Tier{{}}, as(false)...), api.OK)
	}
}

// roomy is tiers with room behind the end of each list.
func roomy(l []api.Tier) []api.Tier {
	row := func(l []api.Pair) []api.Pair {
		return append(slices.Clone(l), pairs(90, 90, 91, 91, 92, 92)...)[:len(l)]
	}
	out := make([]api.Tier, 0, len(l)+3)
	for _, t := range l {
		out = append(out, tier(row(t.Adds), row(t.Drops)))
	}
	return append(out, tier(pairs(93, 93), nil), tier(nil, pairs(94, 94)), api.Tier{})[:len(l)]
}

// whole is tiers with all that stands behind the ends.
func whole(l []api.Tier) []api.Tier {
	var out []api.Tier
	for _, t := range l[:cap(l)] {
		out = append(out, tier(t.Adds[:cap(t.Adds)], t.Drops[:cap(t.Drops)]))
	}
	return kept(out)
}

// spoil writes over all of an answer, and looks whether one of its lists is reached from another.
func spoil(t *testing.T, what string, l []api.Tier) {
	t.Helper()
	n := uint64(1000)
	var lists [][]api.Pair
	for _, x := range l {
		lists = append(lists, x.Adds[:cap(x.Adds)], x.Drops[:cap(x.Drops)])
	}
	for i, list := range lists {
		for j := range list {
			list[j] = at(n+uint64(i), uint64(j))
		}
	}
	for i, list := range lists {
		for j := range list {
			if list[j] != at(n+uint64(i), uint64(j)) {
				t.Errorf("%s: two lists of the answer are one memory", what)
			}
		}
	}
	l = l[:cap(l)]
	for i := range l {
		l[i] = tier(pairs(77, 77), pairs(78, 78))
	}
}

// R3: what is handed in stays as it is, the room behind its end too; what is answered is new memory.
func TestMemory(t *testing.T) {
	l := roomy([]api.Tier{tier(pairs(1, 1, 2, 2), pairs(5, 5)), tier(pairs(3, 3), pairs(1, 1)), {}, tier(nil, pairs(9, 9)), tier(pairs(9, 9), nil)})
	adds, drops := pairs(4, 4, 6, 6, 7, 7), pairs(5, 5, 8, 8, 9, 9)
	before, keptAdds, keptDrops := whole(l), slices.Clone(adds), slices.Clone(drops)
	one := func(x api.Tier, e api.Errno) []api.Tier { return []api.Tier{x} }
	some := func(x []api.Tier, e api.Errno) []api.Tier { return x }
	calls := map[string]func() []api.Tier{
		"Content":           func() []api.Tier { return one(tier(tiers.Content(l), nil), 0) },
		"Content of one":    func() []api.Tier { return one(tier(tiers.Content(l[:1]), nil), 0) },
		"Push":              func() []api.Tier { return some(tiers.Push(l, adds[:2], drops[:2])) },
		"Push to fewer":     func() []api.Tier { return some(tiers.Push(l[:2], adds[:2], drops[:2])) },
		"Push to none":      func() []api.Tier { return some(tiers.Push(l[:0], adds[:2], drops[:2])) },
		"Push of one row":   func() []api.Tier { return some(tiers.Push(l, adds[:1], adds[1:2])) },
		"Join":              func() []api.Tier { return one(tiers.Join(l[0], l[1], false)) },
		"Join with nothing": func() []api.Tier { return one(tiers.Join(l[0], l[2], false)) },
		"Join to nothing":   func() []api.Tier { return one(tiers.Join(l[2], l[0], false)) },
		"Squash, one":       func() []api.Tier { return some(tiers.Squash(l, 1, 2)) },
		"Squash, the first": func() []api.Tier { return some(tiers.Squash(l, 0, 2)) },
		"Squash, the last":  func() []api.Tier { return some(tiers.Squash(l, 3, 5)) },
		"Squash, fewer":     func() []api.Tier { return some(tiers.Squash(l[:3], 1, 2)) },
		"Least":             func() []api.Tier { return some(tiers.Least(l)) },
		"Least of one":      func() []api.Tier { return some(tiers.Least(l[4:])) },
	}
	for name, call := range calls {
		m := call()
		want := kept(m)
		spoil(t, name, m)
		if !alike(whole(l), before) || !slices.Equal(adds, keptAdds) || !slices.Equal(drops, keptDrops) {
			t.Fatalf("%s: what was handed in became %v, %v, %v", name, whole(l), adds, drops)
		}
		sameTiers(t, name+", again", call(), 0, want, 0)
	}
	tiers.Check(l)
	tiers.Has(l, at(9, 9))
	tiers.Same(l, l)
	if !alike(whole(l), before) {
		t.Errorf("what was handed in became %v", whole(l))
	}
}

// R1: no tiers make a call panic; each answers by the chapter's words.
func FuzzTiers(f *testing.F) {
	for _, b := range [][]byte{nil, {1, 2, 4, 3, 9}, {0, 0, 1, 1}, {255, 255}, {3, 1, 3, 5, 0}, {16, 17, 0, 32, 33}} {
		f.Add(b, 0, 2)
	}
	f.Fuzz(func(t *testing.T, b []byte, from, to int) {
		l := []api.Tier{{}}
		for _, c := range b {
			x := &l[len(l)-1]
			p := at(uint64(c>>2&3), uint64(c>>4))
			switch c & 3 {
			case 0:
				l = append(l, api.Tier{})
			case 1:
				x.Drops = append(x.Drops, p)
			default:
				x.Adds = append(x.Adds, p)
			}
		}
		squashed, e := tiers.Squash(l, from, to)
		least, e2 := tiers.Least(l)
		if mayBe(l) {
			fine(t, "Least", least, e2)
			if len(l) < 8 {
				checkAll(t, l, pairs(0, 0, 1, 1, 2, 3))
			}
			return
		}
		sameTiers(t, "Squash", squashed, e, nil, api.ErrTier)
		sameTiers(t, "Least", least, e2, nil, api.ErrTier)
		for _, x := range l {
			if m, e := tiers.Join(x, x, false); (e == api.OK) != mayBe([]api.Tier{x}) {
				t.Errorf("Join(%v): %v, %d", x, m, e)
			}
		}
	})
}
