package view_test

import (
	"slices"
	"testing"

	"colander/api"
	"colander/tiers"
	"colander/view"
)

// P13.4: all rows of at most two tiers of three pairs, and rows of all lengths: at first Rest is what the tiers come to; Next by Next all are told, once each.
func TestNextByNext(t *testing.T) {
	for _, l := range append(rowsOf(allTiers(), 2), manyTiers()...) {
		all := content(l)
		if !slices.Equal(all, tiers.Content(l)) {
			t.Fatalf("Content(%v): %v", l, tiers.Content(l))
		}
		v := mustView(t, l)
		for from := range all {
			mustStand(t, "Next by Next", v, all[from:])
			must(t, "Next", v.Next(), api.OK)
		}
		mustStand(t, "the end", v, nil)
		must(t, "Next at the end", v.Next(), api.ErrNone)
	}
}

// nextTo goes on by Next until nothing is ahead of a pair, and tells how often.
func nextTo(t *testing.T, v *view.View, p api.Pair) int {
	t.Helper()
	for n := 0; ; n++ {
		if q, ok := v.At(); !ok || !ahead(q, p) {
			return n
		}
		must(t, "Next", v.Next(), api.OK)
	}
}

// checkSeeks holds each Seek, from each place on, against the Next that it takes.
func checkSeeks(t *testing.T, l []api.Tier) {
	t.Helper()
	all := content(l)
	for _, p := range probes(l) {
		v := mustView(t, l)
		for from := range len(all) + 1 {
			sought, gone := v.Copy(), v.Copy()
			must(t, "Seek", sought.Seek(p), api.OK)
			n := nextTo(t, gone, p)
			mustBeAt(t, "as many Next as it takes", gone, all[from+n:])
			mustBeAt(t, "Seek", sought, all[from+n:])
			if from == 0 {
				mustStand(t, "Seek from the first one on", sought, all[n:])
			}
			if from < len(all) {
				must(t, "Next", v.Next(), api.OK)
			}
		}
	}
}

// P13.4: Seek is as many Next as it takes, and no more.
func TestSeekIsNext(t *testing.T) {
	for _, l := range rowsOf(allTiers(), 2) {
		checkSeeks(t, l)
	}
	x := uint64(4)
	for n := range 6 {
		var l []api.Tier
		for _, y := range someTiers(n, &x) {
			l = append(l, tier(y.Adds[:min(7, len(y.Adds))], y.Drops[:min(7, len(y.Drops))]))
		}
		checkSeeks(t, l)
	}
}

// P13.2 to P13.4: Next, Seek, Copy and Rest in any order, in rows of all lengths, against the chapter's words.
func TestInAnyOrder(t *testing.T) {
	x := uint64(99)
	for _, l := range manyTiers() {
		all := content(l)
		for range 30 {
			v, rest := mustView(t, l), all
			for len(rest) > 0 {
				if next(&x)%2 == 0 {
					must(t, "Next", v.Next(), api.OK)
					rest = rest[1:]
				} else {
					p := at(rest[0].A+next(&x)%9, next(&x)%25)
					must(t, "Seek", v.Seek(p), api.OK)
					for len(rest) > 0 && ahead(rest[0], p) {
						rest = rest[1:]
					}
				}
				mustBeAt(t, "in any order", v, rest)
				if next(&x)%8 == 0 {
					mustStand(t, "in any order", v, rest)
					v = v.Copy()
				}
			}
			mustStand(t, "the end", v, nil)
		}
	}
}

// roomy is tiers with room behind the end of each list.
func roomy(l []api.Tier) []api.Tier {
	row := func(l []api.Pair) []api.Pair {
		return append(slices.Clone(l), pairs(90, 90, 91, 91, 92, 92)...)[:len(l)]
	}
	var out []api.Tier
	for _, t := range l {
		out = append(out, tier(row(t.Adds), row(t.Drops)))
	}
	return append(out, tier(pairs(93, 93), nil), tier(nil, pairs(94, 94)))[:len(l)]
}

// whole is tiers with all that stands behind the ends.
func whole(l []api.Tier) []api.Tier {
	var out []api.Tier
	for _, t := range l[:cap(l)] {
		out = append(out, tier(slices.Clone(t.Adds[:cap(t.Adds)]), slices.Clone(t.Drops[:cap(t.Drops)])))
	}
	return out
}

// R3: tiers that are handed in stay as they are, the room behind their ends too.
func TestTiersStay(t *testing.T) {
	l := roomy(someTiers(5, new(uint64)))
	before := whole(l)
	v := mustView(t, l)
	for v.Next() == api.OK {
		if p, ok := v.At(); ok && p.B > 8 {
			must(t, "Seek", v.Seek(at(p.A+1, 0)), api.OK)
		}
		v.Rest()
		v = v.Copy()
	}
	if !tiers.Same(before, whole(l)) {
		t.Errorf("what was handed in became %v", whole(l))
	}
}

// R3, and the chapter's words: what becomes of the tiers' memory later changes nothing of a view.
func TestTiersChange(t *testing.T) {
	l := someTiers(7, new(uint64))
	all := content(l)
	v := mustView(t, l)
	must(t, "Next", v.Next(), api.OK)
	c := v.Copy()
	for i := range l {
		for _, row := range [][]api.Pair{l[i].Adds, l[i].Drops} {
			for j := range row {
				row[j] = at(most, uint64(j))
			}
		}
		l[i] = tier(nil, pairs(0, 0))
	}
	for from := 1; from <= len(all); from++ {
		mustStand(t, "the view", v, all[from:])
		mustStand(t, "its copy", c, all[from:])
		if from < len(all) {
			must(t, "Next", v.Next(), api.OK)
			must(t, "Next of the copy", c.Next(), api.OK)
		}
	}
}

// P13.3, R3: what Rest answers is new memory.
func TestRestIsNew(t *testing.T) {
	for _, l := range [][]api.Tier{example(), {tier(many(50, 0), nil)}, someTiers(9, new(uint64))} {
		all := content(l)
		v := mustView(t, l)
		c := v.Copy()
		for _, asked := range []*view.View{v, c, v.Copy()} {
			rest := asked.Rest()
			rest = rest[:cap(rest)]
			for i := range rest {
				rest[i] = at(77, 77)
			}
			mustStand(t, "the view", v, all)
			mustStand(t, "its copy", c, all)
			if !slices.Equal(content(l), all) {
				t.Fatalf("what was handed in became %v", l)
			}
		}
	}
}

// P13.1 to P13.4: as many tiers as may be, each with as many pairs as one can do with here.
func TestManyOfMany(t *testing.T) {
	var l []api.Tier
	for i := range uint64(api.MaxTiers) {
		row := many(4096, i/2)
		l = append(l, tier(row[1024:], row[:1024]))
	}
	all := content(l)
	v := mustView(t, l)
	mustStand(t, "at first", v, all)
	for from := range all {
		mustBeAt(t, "Next by Next", v, all[from:])
		must(t, "Next", v.Next(), api.OK)
	}
	must(t, "Next at the end", v.Next(), api.ErrNone)
}

// R1: no tiers make a call panic; each answers by the chapter's words.
func FuzzView(f *testing.F) {
	for _, b := range [][]byte{nil, {1, 2, 4, 3, 9}, {0, 0, 1, 1}, {255, 255}, {3, 1, 3, 5, 0}, {2, 18, 0, 1, 35}} {
		f.Add(b, uint64(1), uint64(2))
	}
	f.Fuzz(func(t *testing.T, b []byte, p, q uint64) {
		l := []api.Tier{{}}
		for _, c := range b {
			x := &l[len(l)-1]
			p := at(uint64(c>>2&3), uint64(c>>4))
			switch c & 3 {
			case 0:
				l = append(l, api.Tier{})
			case 1:
				x.Drops = append(x.Drops, p)
			default:
				x.Adds = append(x.Adds, p)
			}
		}
		v, e := view.Of(l)
		if !mayBe(l) {
			must(t, "Of", e, api.ErrTier)
			mustStand(t, "nil", v, nil)
			must(t, "Next of nil", v.Next(), api.ErrNil)
			return
		}
		must(t, "Of", e, api.OK)
		mustStand(t, "at first", v, content(l))
		must(t, "Seek", v.Seek(at(p, q)), api.OK)
		rest := slices.DeleteFunc(content(l), func(x api.Pair) bool { return ahead(x, at(p, q)) })
		mustStand(t, "behind Seek", v, rest)
		if len(l) < 5 {
			checkSeeks(t, l)
		}
	})
}
