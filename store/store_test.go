package store_test

import (
	"math"
	"slices"
	"strings"
	"testing"

	"colander/api"
	"colander/dict"
	"colander/graph"
	"colander/merge"
	"colander/store"
	"colander/tiers"
)

// P14.2, P14.4, P14.5: the chapter's examples.
func TestExamples(t *testing.T) {
	s, n, e := store.Do(store.New(), add("ann"), add("bob"), link("ann", "knows", "bob"))
	if n != 3 || e != api.OK {
		t.Fatal(n, e)
	}
	if l, e := store.Facts(s, of(api.ReForth, 0)); e != api.OK || !slices.Equal(l, pairs(0, 1)) {
		t.Error(l, e)
	}
	s, n, e = store.Do(s, drop("bob"))
	if n != 1 || e != api.OK || store.Settled(s) {
		t.Fatal(n, e)
	}
	for _, steps := range []int{0, 1000} {
		s = stepped(t, s, steps)
		forth, e := store.Facts(s, of(api.ReForth, 0))
		nodes, f := store.Facts(s, of(api.ReNode, 0))
		if e != api.OK || f != api.OK || len(forth) > 0 || !slices.Equal(nodes, pairs(0, 0)) {
			t.Error(steps, forth, nodes, e, f)
		}
	}
	if !store.Settled(s) {
		t.Error("it is not settled")
	}
	if x, n, e := store.Step(s, -1); e != api.ErrArg || n != 0 || !nothing(x) {
		t.Error(x, n, e)
	}
}

// P14.1: of a graph of nothing, without tiers.
func TestNew(t *testing.T) {
	s := store.New()
	mustBe(t, "New", s, graph.New())
	if len(s.Shelves) != 1 || s.Shelves[0].Of != of(api.ReNode, 0) || len(s.Shelves[0].Tiers) != 0 || s.Open || !store.Settled(s) {
		t.Error(s)
	}
	if l, e := store.Facts(s, of(api.ReNode, 0)); e != api.OK || len(l) != 0 {
		t.Error(l, e)
	}
	spoil(t, "New", s)
	mustBe(t, "New once more", store.New(), graph.New())
}

// two is a store of two nodes, a label, a type, a property and two values, one fact of each relation at least.
func two(t *testing.T) api.Store {
	return api.Store{
		Dict: named(t, api.DiNode, 2, api.DiLabel, 1, api.DiType, 1, api.DiProp, 1, api.DiValue, 2),
		Shelves: []api.Shelf{
			shelf(of(api.ReNode, 0), pairs(0, 0, 1, 1), nil),
			shelf(of(api.ReLabel, 0), pairs(1, 1), nil),
			shelf(of(api.ReProp, 0), pairs(0, 1, 1, 0), nil),
			shelf(of(api.ReForth, 0), pairs(0, 1, 1, 1), nil),
			shelf(of(api.ReBack, 0), pairs(1, 0, 1, 1), nil),
		},
	}
}

// P14.1: what a store has to be, to be one: each thing by itself.
func TestWrongStores(t *testing.T) {
	mustNotBe(t, "nothing at all", api.Store{})
	mustNotBe(t, "a shelf alone, of no dictionary's", api.Store{Dict: api.Dict{Kinds: [api.DiKinds]api.Table{{Texts: []string{"ann"}}}}, Shelves: []api.Shelf{{}}})
	for what, spoilt := range map[string]func(s *api.Store){
		"a dictionary of one name twice": func(s *api.Store) { s.Dict.Kinds[api.DiNode].Texts[1] = "n0" },
		"a dictionary of no name":        func(s *api.Store) { s.Dict.Kinds[api.DiValue].Texts[0] = "\"" },
		"a dictionary without slots":     func(s *api.Store) { s.Dict.Kinds[api.DiType].Slots = nil },
		"no shelves":                     func(s *api.Store) { s.Shelves = nil },
		"a shelf less":                   func(s *api.Store) { s.Shelves = s.Shelves[:4] },
		"the first shelf less":           func(s *api.Store) { s.Shelves = s.Shelves[1:] },
		"a shelf more":                   func(s *api.Store) { s.Shelves = append(s.Shelves, shelf(of(api.ReBack, 1))) },
		"a shelf more, of no kind":       func(s *api.Store) { s.Shelves = append(s.Shelves, shelf(of(api.ReBack+1, 0))) },
		"a shelf twice":                  func(s *api.Store) { s.Shelves = append(s.Shelves, s.Shelves[4]) },
		"another relation":               func(s *api.Store) { s.Shelves[1].Of = of(api.ReLabel, 1) },
		"a name of nodes":                func(s *api.Store) { s.Shelves[0].Of.Name = 1 },
		"shelves in another order":       func(s *api.Store) { s.Shelves[3], s.Shelves[4] = s.Shelves[4], s.Shelves[3] },
	} {
		s := two(t)
		spoilt(&s)
		mustNotBe(t, what, s)
	}
}

// P14.1: of each shelf, what its tiers may not be, and what they may not come to.
func TestWrongShelves(t *testing.T) {
	mustBe(t, "two", two(t), wantTwo(t))
	type change struct {
		what        string
		kind        int
		adds, drops []api.Pair
	}
	for _, x := range []change{
		{"a node that has no key", api.ReNode, pairs(2, 2), nil},
		{"a node of two numbers", api.ReNode, pairs(0, 1), nil},
		{"a node of two numbers, the other way", api.ReNode, pairs(1, 0), nil},
		{"a node of the greatest number", api.ReNode, pairs(most, most), nil},
		{"a node of 2^63", api.ReNode, pairs(1<<63, 1<<63), nil},
		{"a node of 2^32", api.ReNode, pairs(1<<32, 1<<32), nil},
		{"a node of as many as there are names at most", api.ReNode, pairs(api.MaxNames, api.MaxNames), nil},
		{"a node less", api.ReNode, nil, pairs(1, 1)},
		{"the other node less", api.ReNode, nil, pairs(0, 0)},
		{"a label of a node that is not there", api.ReLabel, pairs(2, 2), nil},
		{"a label of two numbers", api.ReLabel, pairs(0, 1), nil},
		{"a label of two numbers, the other way", api.ReLabel, pairs(1, 0), nil},
		{"a label of a great number", api.ReLabel, pairs(1<<32, 1), nil},
		{"a value that has no name", api.ReProp, pairs(2, 0), pairs(1, 0)},
		{"a great value", api.ReProp, pairs(1<<32, 0), pairs(1, 0)},
		{"the greatest value", api.ReProp, pairs(most, 0), pairs(1, 0)},
		{"two values of a node", api.ReProp, pairs(0, 0), nil},
		{"two values of the other node", api.ReProp, pairs(1, 1), nil},
		{"a value of a node that is not there", api.ReProp, pairs(0, 2), nil},
		{"an edge forth alone", api.ReForth, pairs(0, 0), nil},
		{"an edge back alone", api.ReBack, pairs(0, 0), nil},
		{"an edge back alone, of another one turned", api.ReBack, pairs(0, 1), nil},
		{"an edge forth less", api.ReForth, nil, pairs(0, 1)},
		{"an edge back less", api.ReBack, nil, pairs(1, 0)},
		{"a loop back less", api.ReBack, nil, pairs(1, 1)},
		{"an edge back, not turned", api.ReBack, pairs(0, 1), pairs(1, 0)},
	} {
		s := two(t)
		at := slices.IndexFunc(s.Shelves, func(y api.Shelf) bool { return y.Of.Kind == x.kind })
		s.Shelves[at].Tiers = append(s.Shelves[at].Tiers, api.Tier{Adds: x.adds, Drops: x.drops})
		if tiers.Check(s.Shelves[at].Tiers) != api.OK {
			t.Fatal(x)
		}
		mustNotBe(t, x.what, s)
	}
	for _, p := range []api.Pair{{A: 0, B: 2}, {A: 2, B: 0}, {A: 2, B: 2}, {A: 1 << 63, B: 1 << 63}, {A: 0, B: 1 << 32}} {
		s := two(t)
		s.Shelves[3].Tiers = append(s.Shelves[3].Tiers, api.Tier{Adds: []api.Pair{p}})
		s.Shelves[4].Tiers = append(s.Shelves[4].Tiers, api.Tier{Adds: []api.Pair{{A: p.B, B: p.A}}})
		mustNotBe(t, "an edge of a node that is not there", s)
	}
	for i := range 5 {
		for what, l := range map[string][]api.Tier{
			"added and dropped":   {{Adds: pairs(9, 9), Drops: pairs(9, 9)}, {Drops: pairs(9, 9)}},
			"a run not in order":  {{Drops: pairs(9, 9, 8, 8)}},
			"a pair twice":        {{Drops: pairs(9, 9, 9, 9)}},
			"a pair too much":     {{Drops: many(api.MaxRun+1, 500)}},
			"a tier too much":     make([]api.Tier, api.MaxTiers),
			"adds not in order":   {{Adds: pairs(9, 9, 8, 8)}, {Drops: pairs(8, 8, 9, 9)}},
			"something else, too": {{Adds: pairs(500, 500)}},
		} {
			s := two(t)
			s.Shelves[i].Tiers = append(s.Shelves[i].Tiers, l...)
			mustNotBe(t, what, s)
		}
	}
}

func wantTwo(t *testing.T) api.Graph {
	return api.Graph{
		Dict:  named(t, api.DiNode, 2, api.DiLabel, 1, api.DiType, 1, api.DiProp, 1, api.DiValue, 2),
		Nodes: []api.Node{{Id: 0, Props: []api.Prop{{Name: 0, Value: 1}}}, {Id: 1, Labels: []int{0}, Props: []api.Prop{{Name: 0, Value: 0}}}},
		Edges: []api.Edge{{Type: 0, From: 0, To: 1}, {Type: 0, From: 1, To: 1}},
	}
}

// open is two, with three tiers of nodes; of the oldest two, so many pairs have been merged.
func open(t *testing.T, at int) api.Store {
	t.Helper()
	s := two(t)
	s.Shelves[0] = shelf(of(api.ReNode, 0), pairs(0, 0, 5, 5), pairs(7, 7), pairs(6, 6), pairs(5, 5, 8, 8), pairs(1, 1), pairs(6, 6))
	m, e := merge.Begin(s.Shelves[0].Tiers[0], s.Shelves[0].Tiers[1], true)
	if e != api.OK {
		t.Fatal(e)
	}
	if m, _, e = merge.Step(m, at); e != api.OK {
		t.Fatal(e)
	}
	s.Open, s.Merge = true, m
	return s
}

// P14.1: what is being merged, if anything is.
func TestWrongMerges(t *testing.T) {
	for at := range 6 {
		mustBe(t, "open", open(t, at), wantTwo(t))
	}
	for what, spoilt := range map[string]func(s *api.Store){
		"not open":                     func(s *api.Store) { s.Open = false },
		"not open, without what it is": func(s *api.Store) { s.Open, s.Merge = false, api.Merge{Oldest: true} },
		"not open, but At":             func(s *api.Store) { s.Open, s.Merge = false, api.Merge{At: 1} },
		"not open, but Older":          func(s *api.Store) { s.Open, s.Merge = false, api.Merge{Older: s.Merge.Older} },
		"not open, but Newer":          func(s *api.Store) { s.Open, s.Merge = false, api.Merge{Newer: api.Tier{Drops: pairs(5, 5)}} },
		"not open, but Out":            func(s *api.Store) { s.Open, s.Merge = false, api.Merge{Out: api.Tier{Adds: pairs(5, 5)}} },
		"not open, but of a label":     func(s *api.Store) { s.Open, s.Merge, s.Of = false, api.Merge{}, of(api.ReLabel, 0) },
		"not open, but of no relation": func(s *api.Store) { s.Open, s.Merge, s.Of = false, api.Merge{}, of(0, 1) },
		"of a label":                   func(s *api.Store) { s.Of = of(api.ReLabel, 0) },
		"of no relation":               func(s *api.Store) { s.Of = of(api.ReLabel, 1) },
		"of no kind":                   func(s *api.Store) { s.Of = of(-1, 0) },
		"without a merge":              func(s *api.Store) { s.Merge = api.Merge{} },
		"not the oldest":               func(s *api.Store) { s.Merge, _ = merge.Begin(s.Merge.Older, s.Merge.Newer, false) },
		"the other way round":          func(s *api.Store) { s.Merge, _ = merge.Begin(s.Merge.Newer, s.Merge.Older, true) },
		"the newer two": func(s *api.Store) {
			s.Merge, _ = merge.Begin(s.Shelves[0].Tiers[1], s.Shelves[0].Tiers[2], true)
		},
		"the oldest and the newest": func(s *api.Store) {
			s.Merge, _ = merge.Begin(s.Shelves[0].Tiers[0], s.Shelves[0].Tiers[2], true)
		},
		"an older one of the same content": func(s *api.Store) { s.Merge, _ = merge.Begin(api.Tier{Adds: s.Merge.Older.Adds}, s.Merge.Newer, true) },
		"one tier alone":                   func(s *api.Store) { s.Shelves[0].Tiers = []api.Tier{{Adds: pairs(0, 0, 1, 1)}} },
		"no tiers": func(s *api.Store) {
			s.Open, s.Of, s.Shelves[1].Tiers = true, of(api.ReLabel, 0), nil
			s.Merge, _ = merge.Begin(api.Tier{}, api.Tier{}, true)
		},
		"At below 0":      func(s *api.Store) { s.Merge.At = -1 },
		"At too great":    func(s *api.Store) { s.Merge.At = 6 },
		"At one more":     func(s *api.Store) { s.Merge.At++ },
		"At one less":     func(s *api.Store) { s.Merge.At-- },
		"Out of others":   func(s *api.Store) { s.Merge.Out.Adds[0].B = 4 },
		"Out of nothing":  func(s *api.Store) { s.Merge.Out = api.Tier{} },
		"Out with a drop": func(s *api.Store) { s.Merge.Out.Drops = pairs(5, 5) },
	} {
		s := open(t, 3)
		if what == "At one more" {
			s = open(t, 2) // the next one is kept: of one that is dropped Out would tell nothing
		}
		spoilt(&s)
		mustNotBe(t, what, s)
	}
}

// P14.1: nil and empty are one, whatever is said without effect is no fault, and a dictionary may have names of nobody.
func TestOddStores(t *testing.T) {
	s := two(t)
	for i := range s.Shelves {
		x := &s.Shelves[i]
		x.Tiers = append([]api.Tier{{Adds: pairs(0, 0, 700, most, most, most), Drops: pairs(1, 1, 9, 9, most, 0)}, {Adds: []api.Pair{}}, {Drops: pairs(0, 0, 1, 2, 700, most, most, most)}}, x.Tiers...)
		for len(x.Tiers) < api.MaxTiers {
			x.Tiers = append(x.Tiers, api.Tier{Drops: pairs(77, 77)})
		}
	}
	mustBe(t, "tiers of odd pairs", s, wantTwo(t))
	s = two(t)
	s.Merge = api.Merge{Older: api.Tier{Adds: []api.Pair{}}, Out: api.Tier{Drops: []api.Pair{}}}
	mustBe(t, "a merge of empty lists", s, wantTwo(t))
	g := api.Graph{Dict: named(t, api.DiNode, 128, api.DiLabel, 128, api.DiType, 128, api.DiProp, 128, api.DiValue, 128)}
	s = api.Store{Dict: g.Dict}
	for _, r := range graph.Relations(g) {
		s.Shelves = append(s.Shelves, api.Shelf{Of: r, Tiers: []api.Tier{}})
	}
	if len(s.Shelves) != 513 || !store.Settled(s) {
		t.Fatal(len(s.Shelves))
	}
	is, e := store.Graph(s)
	if e != api.OK || !graph.Same(is, g) {
		t.Fatal(is, e)
	}
	if l, e := store.Facts(s, of(api.ReBack, 127)); e != api.OK || len(l) != 0 {
		t.Fatal(l, e)
	}
}

// P14.2: relations that a graph has not.
func TestNoRelation(t *testing.T) {
	s := two(t)
	for _, r := range []api.Relation{of(-1, 0), of(5, 0), of(0, 1), of(0, -1), of(1, 1), of(1, -1), of(2, 1), of(3, 1), of(4, 1), of(4, math.MaxInt), of(math.MinInt, 0)} {
		if l, e := store.Facts(s, r); e != api.ErrArg || l != nil {
			t.Errorf("%v: %v, %d", r, l, e)
		}
	}
	if l, e := store.Facts(store.New(), of(api.ReLabel, 0)); e != api.ErrArg || l != nil {
		t.Error(l, e)
	}
}

// P14.3: a settled store of that graph; what is no graph.
func TestLoad(t *testing.T) {
	small, _ := store.Graph(example(t))
	for _, g := range []api.Graph{graph.New(), wantTwo(t), small, {Dict: named(t, api.DiNode, 3, api.DiType, 2)}} {
		s, e := store.Load(g)
		if e != api.OK || !store.Settled(s) || !isSettled(s) {
			t.Fatal(s, e)
		}
		mustBe(t, "Load", s, g)
		if n := stepsOf(t, s); n != 0 {
			t.Errorf("%d steps of what is settled", n)
		}
	}
	for _, g := range []api.Graph{{Nodes: []api.Node{{}}}, {Dict: small.Dict, Nodes: []api.Node{{Id: 1}, {Id: 0}}}, {Dict: small.Dict, Edges: []api.Edge{{}}}, {Dict: api.Dict{Kinds: [api.DiKinds]api.Table{{Texts: []string{"Ann"}}}}}} {
		if s, e := store.Load(g); e != api.ErrGraph || !nothing(s) {
			t.Errorf("%v: %v, %d", g, s, e)
		}
	}
}

// stepsOf is how many steps a store makes till it comes to rest.
func stepsOf(t *testing.T, s api.Store) int {
	t.Helper()
	out, n, e := store.Step(s, math.MaxInt)
	if e != api.OK || !store.Settled(out) {
		t.Fatal(n, e)
	}
	return n
}

// P14.4: each error of graph.Do, its number, and nothing else; on all that has tiers, or is being merged.
func TestWrongChanges(t *testing.T) {
	g, _ := store.Graph(example(t))
	for _, s := range []api.Store{example(t), stepped(t, example(t), 2), stepped(t, example(t), 1000)} {
		for _, l := range [][]api.Change{
			{add("ann")}, {add("eve"), add("eve")}, {drop("bob")}, {label("dan", "q")}, {unlabel("dan", "p")}, {add("eve"), label("eve", "p"), unset("eve", "age")},
			{link("dan", "knows", "ann")}, {unlink("ann", "knows", "bob")}, {link("ann", "knows", "bob")}, {set("bob", "age", "7")},
			{{}}, {add("eve"), {Kind: 9, Key: "eve"}}, {add("Eve")}, {set("ann", "age", "\"")}, {label("ann", strings.Repeat("x", 33))}, {add("eve"), {Kind: api.ChAdd, Key: "fay", Name: "x"}},
			slices.Repeat(batch(set("ann", "age", "9")), 65), slices.Repeat(batch(add("Eve")), 65),
		} {
			_, wantN, wantE := graph.Do(g, l...)
			x, n, e := store.Do(s, l...)
			if wantE == api.OK || n != wantN || e != wantE || !nothing(x) {
				t.Errorf("%v: %v, %d, %d, want %d, %d", l, x, n, e, wantN, wantE)
			}
		}
	}
}

// P14.4: names for which there is no room; and room for 128 of each kind.
func TestFull(t *testing.T) {
	g := api.Graph{Dict: named(t, api.DiNode, 128, api.DiLabel, 127, api.DiType, 127, api.DiProp, 127, api.DiValue, 127), Nodes: []api.Node{{Id: 0}}}
	s, e := store.Load(g)
	if e != api.OK {
		t.Fatal(e)
	}
	s, n, e := store.Do(s, label("n0", "p"), link("n0", "knows", "n0"), set("n0", "age", "x"), add("n127"))
	if n != 4 || e != api.OK || len(s.Shelves) != 513 {
		t.Fatal(n, e)
	}
	if l, e := store.Facts(s, of(api.ReProp, 127)); e != api.OK || !slices.Equal(l, pairs(127, 0)) {
		t.Error(l, e)
	}
	for i, c := range batch(add("ann"), label("n0", "q"), link("n0", "likes", "n0"), set("n0", "town", "x"), set("n0", "age", "y")) {
		if x, n, e := store.Do(s, unlabel("n0", "p"), c); n != 2 || e != api.ErrFull || !nothing(x) {
			t.Error(i, n, e)
		}
	}
}

// P14.4: no changes change nothing; so do changes that are taken back; names stay.
func TestNothingDone(t *testing.T) {
	s := example(t)
	g, _ := store.Graph(s)
	x, n, e := store.Do(s)
	if n != 0 || e != api.OK {
		t.Fatal(n, e)
	}
	mustBe(t, "no changes", x, g)
	x, n, e = store.Do(s, set("ann", "age", "8"))
	if n != 1 || e != api.OK {
		t.Fatal(n, e)
	}
	mustBe(t, "as it was", x, g)
	x, n, e = store.Do(s, add("eve"), label("eve", "r"), drop("eve"))
	if n != 3 || e != api.OK || store.Check(x) != api.OK {
		t.Fatal(n, e)
	}
	is, _ := store.Graph(x)
	if id, has := dict.Id(is.Dict, api.DiLabel, "r"); id != 2 || !has {
		t.Error(id, has)
	}
	if l, e := store.Facts(x, of(api.ReLabel, 2)); e != api.OK || len(l) != 0 {
		t.Error(l, e)
	}
	if l, e := store.Facts(s, of(api.ReLabel, 2)); e != api.ErrArg || l != nil {
		t.Error(l, e)
	}
}

// P14.4, P14.6: more batches than a shelf has tiers, with a merge open and without.
func TestMoreBatchesThanTiers(t *testing.T) {
	for _, steps := range []int{0, 1, 2, 3} {
		s, g := done(t, batch(add("ann"), add("bob"), link("ann", "knows", "bob"))), api.Graph{}
		g, _ = store.Graph(s)
		for i := range 3 * api.MaxTiers {
			l := batch(drop("bob"))
			if i%2 == 1 {
				l = batch(add("bob"), link("ann", "knows", "bob"), link("bob", "knows", "bob"))
			}
			var e api.Errno
			if s, _, e = store.Do(s, l...); e != api.OK {
				t.Fatal(i, e)
			}
			if g, _, e = graph.Do(g, l...); e != api.OK {
				t.Fatal(i, e)
			}
			if i%30 == 7 {
				s = stepped(t, s, steps)
				if s.Open != (steps%2 == 1) {
					t.Fatalf("open: %t, behind %d steps", s.Open, steps)
				}
			}
			mustBe(t, "behind many batches", s, g)
		}
		s = stepped(t, s, 100000)
		mustBe(t, "settled", s, g)
		if !store.Settled(s) {
			t.Error("it is not settled")
		}
	}
}
