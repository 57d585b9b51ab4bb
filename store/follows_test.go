package store_test

import (
	"slices"
	"testing"

	"colander/api"
	"colander/graph"
	"colander/store"
)

// mustBeByWords holds a store of a dictionary against all graphs of that, found by their facts.
func mustBeByWords(t *testing.T, s api.Store, graphs map[string]api.Graph) {
	t.Helper()
	g, has := graphs[contentOf(s)]
	if !has || !mayMerge(s) {
		if e := store.Check(s); e != api.ErrStore {
			t.Fatalf("Check(%v): %d", s, e)
		}
		return
	}
	mustBe(t, "by words", s, g)
}

// allTiers are all of pairs, each of which is added, dropped, or neither.
func allTiers(l []api.Pair) []api.Tier {
	out := []api.Tier{{}}
	for _, p := range l {
		for _, t := range slices.Clone(out) {
			out = append(out, api.Tier{Adds: append(slices.Clone(t.Adds), p), Drops: t.Drops}, api.Tier{Adds: t.Adds, Drops: append(slices.Clone(t.Drops), p)})
		}
	}
	return out
}

// allRuns are all of pairs, each of which is there or not.
func allRuns(l []api.Pair) [][]api.Pair {
	out := [][]api.Pair{nil}
	for _, p := range l {
		for _, x := range slices.Clone(out) {
			out = append(out, append(slices.Clone(x), p))
		}
	}
	return out
}

// square are the pairs of all numbers below an end.
func square(end uint64) []api.Pair {
	var out []api.Pair
	for a := range end {
		for b := range end {
			out = append(out, api.Pair{A: a, B: b})
		}
	}
	return out
}

// P14.1, P14.5: all stores of a node and a label, of two tiers of two pairs at most on each shelf.
func TestAllTiersOfOneNode(t *testing.T) {
	d := named(t, api.DiNode, 1, api.DiLabel, 1)
	graphs := allGraphs(t, d)
	if len(graphs) != 3 {
		t.Fatal(len(graphs))
	}
	var rows [][]api.Tier
	one := allTiers(pairs(0, 0, 1, 1))
	rows = append(rows, nil)
	for _, x := range one {
		rows = append(rows, []api.Tier{x})
		for _, y := range one {
			rows = append(rows, []api.Tier{x, y})
		}
	}
	for i, nodes := range rows {
		for j, labels := range rows {
			s := api.Store{Dict: d, Shelves: []api.Shelf{{Of: of(0, 0), Tiers: nodes}, {Of: of(1, 0), Tiers: labels}}}
			mustBeByWords(t, s, graphs)
			if store.Check(s) != api.OK {
				continue
			}
			n := (i + j) % 5
			x, made, e := store.Step(s, n)
			if e != api.OK || made > n || made < n && !isSettled(x) {
				t.Fatalf("Step(%v, %d): %v, %d, %d", s, n, x, made, e)
			}
			mustBe(t, "behind steps", x, graphs[contentOf(s)])
		}
	}
}

// P14.1: all stores of two nodes and a type, in one tier each: nodes of all pairs, edges forth and back, turned and not.
func TestAllEdgesOfTwoNodes(t *testing.T) {
	d := named(t, api.DiNode, 2, api.DiType, 1)
	graphs := allGraphs(t, d)
	if len(graphs) != 1+2*2+16 {
		t.Fatal(len(graphs))
	}
	right := 0
	for _, nodes := range allRuns(square(2)) {
		for _, forth := range allRuns(square(2)) {
			for _, back := range allRuns(square(2)) {
				s := api.Store{Dict: d, Shelves: []api.Shelf{shelf(of(0, 0), nodes, nil), shelf(of(3, 0), forth, nil), shelf(of(4, 0), back, nil)}}
				mustBeByWords(t, s, graphs)
				if store.Check(s) == api.OK {
					right++
				}
			}
		}
	}
	if right != len(graphs) {
		t.Errorf("%d stores of %d graphs", right, len(graphs))
	}
}

// P14.1: all stores of two nodes, a property and two values, in one tier each.
func TestAllValuesOfTwoNodes(t *testing.T) {
	d := named(t, api.DiNode, 2, api.DiProp, 1, api.DiValue, 2)
	graphs := allGraphs(t, d)
	if len(graphs) != 4*4 {
		t.Fatal(len(graphs))
	}
	right := 0
	for _, nodes := range allRuns(square(2)) {
		for _, props := range allRuns(square(3)) {
			s := api.Store{Dict: d, Shelves: []api.Shelf{shelf(of(0, 0), nodes, nil), shelf(of(2, 0), props, nil)}}
			mustBeByWords(t, s, graphs)
			if store.Check(s) == api.OK {
				right++
			}
		}
	}
	if right != len(graphs) {
		t.Errorf("%d stores of %d graphs", right, len(graphs))
	}
}

// P14.3, P14.6: each graph of a small dictionary is loaded, and told back.
func TestAllGraphs(t *testing.T) {
	for _, d := range []api.Dict{named(t, api.DiNode, 3, api.DiType, 1), named(t, api.DiNode, 2, api.DiLabel, 2, api.DiProp, 2, api.DiValue, 1, api.DiType, 1)} {
		for _, g := range allGraphs(t, d) {
			s, e := store.Load(g)
			if e != api.OK || !store.Settled(s) {
				t.Fatal(g, e)
			}
			mustBe(t, "Load", s, g)
		}
	}
}

// P14.6: whatever steps are made between whatever batches, the graph is that of the batches alone; with enough of them it comes to rest.
func TestBatchesAndSteps(t *testing.T) {
	x := uint64(14)
	for round := range 40 {
		s, g := store.New(), graph.New()
		for range 60 {
			l := make([]api.Change, next(&x)%4)
			for i := range l {
				l[i] = someChange(&x)
			}
			want, wantN, wantE := graph.Do(g, l...)
			is, n, e := store.Do(s, l...)
			if n != wantN || e != wantE {
				t.Fatalf("Do(%v): %d, %d, want %d, %d", l, n, e, wantN, wantE)
			}
			if e == api.OK {
				s, g = is, want
			} else if !nothing(is) {
				t.Fatalf("Do(%v): %d, and %v", l, e, is)
			}
			if next(&x)%3 > 0 {
				s = stepped(t, s, int(next(&x)%uint64(round+1)))
			}
			mustBe(t, "behind a batch", s, g)
		}
		steps := 0
		for !store.Settled(s) {
			out, n, e := store.Step(s, 1+round)
			if steps += n; e != api.OK || n > 1+round || steps > 10000 {
				t.Fatal(n, e, steps)
			}
			s = out
			mustBe(t, "behind steps", s, g)
		}
		anew, e := store.Load(g)
		if e != api.OK || stepsOf(t, anew) != 0 {
			t.Fatal(e)
		}
	}
}

// P14.6: of stores of one graph whose tiers lie otherwise, all but the tiers is told alike.
func TestTiersTellNothing(t *testing.T) {
	first := example(t)
	g, _ := store.Graph(first)
	loaded, _ := store.Load(g)
	l := batch(add("eve"), link("eve", "knows", "ann"), unset("cy", "age"), drop("dan"))
	want, _, _ := graph.Do(g, l...)
	for _, s := range []api.Store{first, stepped(t, first, 3), stepped(t, first, 1000), loaded} {
		mustBe(t, "of one graph", s, g)
		x, n, e := store.Do(s, l...)
		if n != len(l) || e != api.OK {
			t.Fatal(n, e)
		}
		mustBe(t, "of one graph, changed", x, want)
	}
}

// R3: what is handed in stays as it is, the room behind its ends too; what is answered is new memory, each list of its own.
func TestMemory(t *testing.T) {
	l := batch(add("eve"), label("eve", "new"), link("eve", "knows", "ann"), unset("cy", "age"), drop("dan"))
	full := example(t)
	for range api.MaxTiers {
		full, _, _ = store.Do(full, add("bob"))
		full, _, _ = store.Do(full, drop("bob"))
	}
	for _, first := range []api.Store{example(t), stepped(t, example(t), 2), stepped(t, example(t), 1000), full, stepped(t, full, 4), open(t, 3)} {
		s := deep(first)
		before := deep(s)
		for what, call := range map[string]func() api.Store{
			"Step 0": func() api.Store { return stepped(t, s, 0) },
			"Step 1": func() api.Store { return stepped(t, s, 1) },
			"Step 5": func() api.Store { return stepped(t, s, 5) },
			"Step":   func() api.Store { return stepped(t, s, 1000) },
			"Do": func() api.Store {
				x, _, _ := store.Do(s)
				return x
			},
			"Do of many": func() api.Store {
				x, _, _ := store.Do(s, l...)
				return x
			},
			"Load": func() api.Store {
				g, e := store.Graph(s)
				x, f := store.Load(g)
				if e != api.OK || f != api.OK {
					t.Fatal(e, f)
				}
				return x
			},
		} {
			want := call()
			is := call()
			spoil(t, what, is)
			if !alike(s, before) {
				t.Fatalf("%s changed what was handed in, or answered it", what)
			}
			if again := call(); !alike(trimmed(again), trimmed(want)) {
				t.Errorf("%s answers otherwise, once its answer is spoilt", what)
			}
		}
		g, _ := store.Graph(s)
		fill(g.Nodes[0].Labels, -5)
		fill(g.Nodes[0].Props, api.Prop{})
		fill(g.Nodes, api.Node{})
		fill(g.Edges, api.Edge{})
		for _, x := range g.Dict.Kinds {
			fill(x.Texts, "spoilt")
			fill(x.Slots, -5)
		}
		for _, r := range graph.Relations(api.Graph{Dict: s.Dict}) {
			facts, _ := store.Facts(s, r)
			fill(facts, api.Pair{A: 3000})
		}
		store.Check(s)
		store.Settled(s)
		if !alike(s, before) {
			t.Fatal("what was handed in has changed")
		}
	}
	changes := append(slices.Clone(l), add("room"))[:len(l)]
	if _, _, e := store.Do(example(t), changes...); e != api.OK || !slices.Equal(whole(changes)[:len(l)+1], append(slices.Clone(l), add("room"))) {
		t.Error(e, changes)
	}
}

// trimmed is a copy without room.
func trimmed(s api.Store) api.Store {
	out := deep(s)
	for kind, t := range out.Dict.Kinds {
		out.Dict.Kinds[kind] = api.Table{Texts: slices.Clip(t.Texts), Slots: slices.Clip(t.Slots)}
	}
	trim := func(t api.Tier) api.Tier { return api.Tier{Adds: slices.Clip(t.Adds), Drops: slices.Clip(t.Drops)} }
	out.Shelves = slices.Clip(out.Shelves)
	for i := range out.Shelves {
		x := &out.Shelves[i]
		x.Tiers = slices.Clip(x.Tiers)
		for j := range x.Tiers {
			x.Tiers[j] = trim(x.Tiers[j])
		}
	}
	out.Merge.Older, out.Merge.Newer, out.Merge.Out = trim(out.Merge.Older), trim(out.Merge.Newer), trim(out.Merge.Out)
	return out
}

// R3: a graph that is loaded is not kept.
func TestLoadKeepsNothing(t *testing.T) {
	g, _ := store.Graph(example(t))
	s, e := store.Load(g)
	for _, x := range g.Dict.Kinds {
		fill(x.Texts, "spoilt")
		fill(x.Slots, -5)
	}
	fill(g.Nodes, api.Node{})
	fill(g.Edges, api.Edge{})
	want, f := store.Graph(example(t))
	if e != api.OK || f != api.OK {
		t.Fatal(e, f)
	}
	mustBe(t, "Load", s, want)
}

// P14.2 to P14.6: a graph of as many nodes as there may be, all linked with all.
func TestGreatest(t *testing.T) {
	g := api.Graph{Dict: named(t, api.DiNode, 128, api.DiType, 2, api.DiLabel, 1)}
	for id := range 128 {
		g.Nodes = append(g.Nodes, api.Node{Id: id, Labels: []int{0}})
	}
	for name := range 2 {
		for from := range 128 {
			for to := range 128 {
				g.Edges = append(g.Edges, api.Edge{Type: name, From: from, To: to})
			}
		}
	}
	s, e := store.Load(g)
	if e != api.OK {
		t.Fatal(e)
	}
	mustBe(t, "all", s, g)
	l := batch(drop("n127"), unlink("n0", "n1", "n5"), add("n127"))
	s, _, e = store.Do(s, l...)
	g, _, f := graph.Do(g, l...)
	if e != api.OK || f != api.OK {
		t.Fatal(e, f)
	}
	mustBe(t, "less", s, g)
	s = stepped(t, s, 20000)
	if !s.Open {
		t.Error("not open")
	}
	mustBe(t, "on the way", s, g)
	s = stepped(t, s, 1000000)
	mustBe(t, "settled", s, g)
	if !store.Settled(s) {
		t.Error("not settled")
	}
}

// R1: no store makes a call panic; each is held against the chapter's words.
func FuzzStore(f *testing.F) {
	for _, b := range [][]byte{nil, {1, 2, 4, 3, 9}, {0, 0, 1, 1}, {255, 255}, {3, 1, 3, 5, 0}, {2, 18, 0, 1, 35}} {
		f.Add(b, 3, 2)
	}
	f.Fuzz(func(t *testing.T, b []byte, at, n int) {
		d := named(t, api.DiNode, 2, api.DiLabel, 1, api.DiType, 1, api.DiProp, 1, api.DiValue, 2)
		s := two(t)
		for _, c := range b {
			l := &s.Shelves[int(c&7)%5].Tiers
			x := &(*l)[len(*l)-1]
			p := api.Pair{A: uint64(c >> 6), B: uint64(c >> 5 & 1)}
			switch c >> 3 & 3 {
			case 0:
				*l = append(*l, api.Tier{})
			case 1:
				x.Drops = append(x.Drops, p)
			default:
				x.Adds = append(x.Adds, p)
			}
		}
		if at >= 0 && len(s.Shelves[0].Tiers) > 1 {
			s.Open = true
			s.Merge = api.Merge{Older: s.Shelves[0].Tiers[0], Newer: s.Shelves[0].Tiers[1], Oldest: true, At: at, Out: s.Shelves[0].Tiers[0]}
		}
		if store.Check(s) != api.OK {
			mustNotBe(t, "fuzzed", s)
		} else {
			g, e := store.Graph(s)
			if e != api.OK || factsOf(g) != contentOf(s) {
				t.Fatalf("Graph(%v): %v, %d", s, g, e)
			}
			mustBe(t, "fuzzed", s, g)
			x, made, e := store.Step(s, n)
			if n < 0 {
				if e != api.ErrArg {
					t.Fatal(n, e)
				}
				return
			}
			if e != api.OK || made > n || made < n && !isSettled(x) {
				t.Fatal(n, made, e)
			}
			mustBe(t, "behind steps", x, g)
			if !graph.Same(g, api.Graph{Dict: d, Nodes: g.Nodes, Edges: g.Edges}) {
				t.Fatal(g.Dict)
			}
		}
	})
}
