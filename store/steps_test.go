package store_test

import (
	"math"
	"slices"
	"testing"

	"colander/api"
	"colander/graph"
	"colander/merge"
	"colander/store"
)

// P14.5: at most n steps, and fewer only where it is settled then; a store that is settled makes none; however steps are parted, it comes to rest behind as many.
func TestStep(t *testing.T) {
	first := example(t)
	all := stepsOf(t, first)
	g, _ := store.Graph(first)
	if all < 10 {
		t.Fatal(all)
	}
	for atOnce := range all + 3 {
		s, steps, calls := first, 0, 0
		for !store.Settled(s) {
			x, n, e := store.Step(s, atOnce)
			if e != api.OK || n > atOnce || n < atOnce && !store.Settled(x) {
				t.Fatalf("Step(%d): %d, %d", atOnce, n, e)
			}
			if s, steps = x, steps+n; atOnce == 0 {
				break
			}
			mustBe(t, "on the way", s, g)
			if calls++; calls > all {
				t.Fatalf("not settled behind %d steps", steps)
			}
		}
		if atOnce > 0 && steps != all {
			t.Errorf("%d steps, by %d at once, want %d", steps, atOnce, all)
		}
		mustBe(t, "at the end", s, g)
	}
	s := stepped(t, first, all)
	for _, n := range []int{0, 1, math.MaxInt} {
		if x, made, e := store.Step(s, n); made != 0 || e != api.OK || !store.Settled(x) {
			t.Errorf("Step(%d) of what is settled: %d, %d", n, made, e)
		}
	}
	for _, s := range []api.Store{store.New(), first, s, open(t, 2), open(t, 5)} {
		for _, n := range []int{-1, math.MinInt} {
			if x, made, e := store.Step(s, n); e != api.ErrArg || made != 0 || !nothing(x) {
				t.Errorf("Step(%d): %v, %d, %d", n, x, made, e)
			}
		}
	}
}

// P14.5: a merge that is open is gone on with, wherever it stands, and also if it is done.
func TestStepOfOpen(t *testing.T) {
	for at := range 6 {
		for n := range 14 {
			s := open(t, at)
			x, made, e := store.Step(s, n)
			if e != api.OK || made > n || made < n && !store.Settled(x) {
				t.Fatal(at, n, made, e)
			}
			mustBe(t, "behind steps", x, wantTwo(t))
			if left := stepsOf(t, s) - made; left != stepsOf(t, x) {
				t.Errorf("%d, then %d steps: %d left, want %d", at, made, stepsOf(t, x), left)
			}
		}
		// The five pairs of the oldest two tiers; then those that were kept, 0 0 and 6 6, and 1 1.
		if n := stepsOf(t, open(t, at)); n != 5-at+3 {
			t.Errorf("%d steps of a merge at %d", n, at)
		}
	}
}

// P14.5: settled is no tier that drops something, no second tier, and no merge, on whatever shelf.
func TestSettled(t *testing.T) {
	if !store.Settled(two(t)) {
		t.Error("one tier each is not settled")
	}
	for i := range 5 {
		for what, l := range map[string][]api.Tier{
			"a tier more":                 {two(t).Shelves[i].Tiers[0], {}},
			"an empty tier below":         {{}, two(t).Shelves[i].Tiers[0]},
			"one tier that drops a pair":  {{Adds: two(t).Shelves[i].Tiers[0].Adds, Drops: pairs(50, 50)}},
			"tiers that drop, both":       {{Drops: pairs(1, 1)}, {Adds: two(t).Shelves[i].Tiers[0].Adds, Drops: pairs(most, most)}},
			"as many tiers as there may":  append(make([]api.Tier, api.MaxTiers-1), two(t).Shelves[i].Tiers[0]),
			"what comes, goes, and comes": {two(t).Shelves[i].Tiers[0], {Drops: two(t).Shelves[i].Tiers[0].Adds}, two(t).Shelves[i].Tiers[0]},
		} {
			s := two(t)
			s.Shelves[i].Tiers = l
			mustBe(t, what, s, wantTwo(t))
			if store.Settled(s) {
				t.Errorf("%s: it is settled", what)
			}
			x := stepped(t, s, 100000)
			mustBe(t, what+", settled", x, wantTwo(t))
			if !store.Settled(x) {
				t.Errorf("%s: it does not come to rest", what)
			}
		}
	}
	for kind := range two(t).Shelves {
		s := two(t)
		s.Open, s.Of = true, s.Shelves[kind].Of
		s.Shelves[kind].Tiers = append([]api.Tier{{}}, s.Shelves[kind].Tiers...)
		s.Merge, _ = merge.Begin(api.Tier{}, s.Shelves[kind].Tiers[1], true)
		mustBe(t, "a merge", s, wantTwo(t))
		if store.Settled(s) {
			t.Error("a store is settled that merges")
		}
	}
	of := two(t)
	of.Shelves[1].Tiers = []api.Tier{{}}
	if !store.Settled(of) {
		t.Error("an empty tier is not settled")
	}
}

// P14.5, P14.6: tiers that are too much for a merge come to rest, too; a batch finds room on them.
func TestTooMuchForAMerge(t *testing.T) {
	for what, l := range map[string][]api.Tier{
		"one tier of too many pairs": {{Adds: pairs(0, 0, 1, 1), Drops: many(api.MaxRun, 500)}},
		"two tiers, of one too many": {{Adds: pairs(0, 0, 1, 1)}, {Drops: many(api.MaxRun-1, 500)}},
		"what was added, and went":   {{Adds: many(api.MaxRun, 501)}, {Adds: pairs(0, 0, 1, 1), Drops: many(api.MaxRun, 501)}},
	} {
		s := two(t)
		s.Shelves[0].Tiers = l
		x, n, e := store.Step(s, math.MaxInt)
		if n < 1 || e != api.OK || !store.Settled(x) || len(x.Shelves[0].Tiers) != 1 || !slices.Equal(x.Shelves[0].Tiers[0].Adds, pairs(0, 0, 1, 1)) {
			t.Error(what, n, e)
		}
		mustBe(t, what+", settled", x, wantTwo(t))
	}
	s := two(t)
	s.Shelves[0].Tiers = []api.Tier{{Adds: pairs(0, 0, 1, 1)}, {Drops: many(api.MaxRun-1, 500)}, {Drops: pairs(3, 3)}}
	if x, n, e := store.Step(s, 0); n != 0 || e != api.OK || x.Open || len(x.Shelves[0].Tiers) != 3 {
		t.Error(n, e)
	}
	x, n, e := store.Step(s, 1)
	if n != 1 || e != api.OK {
		t.Fatal(n, e)
	}
	mustBe(t, "behind one step", x, wantTwo(t))
	x, n, e = store.Do(s, add("x"), drop("n0"))
	if n != 2 || e != api.OK || len(x.Shelves[0].Tiers) != 4 {
		t.Error(n, e)
	}
	// MaxRun pairs in all are not too much: they make as many steps.
	s.Shelves[0].Tiers = []api.Tier{{Adds: pairs(0, 0, 1, 1)}, {Drops: many(api.MaxRun-2, 500)}}
	if n := stepsOf(t, s); n != api.MaxRun {
		t.Error(n)
	}
}

// P14.4, P14.6: a batch finds room on 24 tiers of too many pairs, of which some are being merged.
func TestRoomOnFullShelf(t *testing.T) {
	for _, isOpen := range []bool{false, true} {
		s, size := two(t), 5
		if isOpen {
			size = 60000 // those above the oldest two would be too much for one tier
		}
		l := []api.Tier{{Drops: pairs(3, 3)}, {Adds: pairs(0, 0, 1, 1)}}
		for i := range uint64(api.MaxTiers - 2) {
			l = append(l, api.Tier{Drops: many(size, 500+i)})
		}
		s.Shelves[0].Tiers = l
		if isOpen {
			s = stepped(t, s, 2)
		}
		if s.Open != isOpen || len(s.Shelves[0].Tiers) != api.MaxTiers {
			t.Fatal(s.Open)
		}
		// The label's shelf has room: a merge of the nodes goes on untouched.
		x, n, e := store.Do(s, label("n0", "n0"))
		if n != 1 || e != api.OK || store.Check(x) != api.OK || x.Open != isOpen {
			t.Fatal(n, e)
		}
		x, n, e = store.Do(s, add("x"), drop("n0"))
		if n != 2 || e != api.OK || store.Check(x) != api.OK {
			t.Fatal(n, e)
		}
		if l, e := store.Facts(x, of(api.ReNode, 0)); e != api.OK || !slices.Equal(l, pairs(1, 1, 2, 2)) {
			t.Error(l, e)
		}
	}
}

// P14.4: a batch on a shelf without room leaves the merge of another shelf as it is.
func TestMergeOfAnotherShelf(t *testing.T) {
	s := two(t)
	s.Shelves[0].Tiers = append(s.Shelves[0].Tiers, make([]api.Tier, api.MaxTiers-1)...)
	s.Shelves[1].Tiers = append([]api.Tier{{Drops: pairs(0, 0)}}, s.Shelves[1].Tiers...)
	m, e := merge.Begin(s.Shelves[1].Tiers[0], s.Shelves[1].Tiers[1], true)
	if e != api.OK {
		t.Fatal(e)
	}
	s.Open, s.Of = true, of(api.ReLabel, 0)
	s.Merge, _, _ = merge.Step(m, 1)
	mustBe(t, "open", s, wantTwo(t))
	x, n, e := store.Do(s, add("x"), label("n0", "n0"))
	if n != 2 || e != api.OK || !x.Open || x.Of != s.Of || !merge.Same(x.Merge, s.Merge) {
		t.Fatal(x, n, e)
	}
	g, _, _ := graph.Do(wantTwo(t), add("x"), label("n0", "n0"))
	mustBe(t, "behind a batch", x, g)
}
