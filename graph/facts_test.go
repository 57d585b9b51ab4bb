package graph_test

import (
	"math"
	"slices"
	"strconv"
	"testing"

	"colander/api"
	"colander/dict"
	"colander/graph"
)

// P10.3
func TestRelations(t *testing.T) {
	want := []api.Relation{
		{Kind: api.ReNode},
		{Kind: api.ReLabel}, {Kind: api.ReLabel, Name: 1}, {Kind: api.ReLabel, Name: 2},
		{Kind: api.ReProp}, {Kind: api.ReProp, Name: 1}, {Kind: api.ReProp, Name: 2},
		{Kind: api.ReForth}, {Kind: api.ReForth, Name: 1},
		{Kind: api.ReBack}, {Kind: api.ReBack, Name: 1},
	}
	if l := graph.Relations(laid()); !slices.Equal(l, want) {
		t.Errorf("%v, want %v", l, want)
	}
	if l := graph.Relations(withNodes()); !slices.Equal(l, want) {
		t.Errorf("without nodes: %v, want %v", l, want)
	}
	if l := graph.Relations(graph.New()); !slices.Equal(l, want[:1]) {
		t.Errorf("New: %v", l)
	}
}

// P10.3: each kind of names has relations of its own, keys and values have none.
func TestRelationsOfKinds(t *testing.T) {
	for kind, want := range [][]int{{}, {1}, {3, 4}, {2}, {}} {
		for _, many := range []int{1, 2, 127, 128} {
			g := graph.New()
			for _, name := range named(many) {
				g.Dict, _, _ = dict.Put(g.Dict, kind, name)
			}
			wanted := []api.Relation{{}}
			for _, of := range want {
				for id := range many {
					wanted = append(wanted, api.Relation{Kind: of, Name: id})
				}
			}
			if l := graph.Relations(g); !slices.Equal(l, wanted) {
				t.Errorf("%d names of kind %d: %v", many, kind, l)
			}
		}
	}
}

func pairs(l ...int) []api.Pair {
	var out []api.Pair
	for i := 0; i < len(l); i += 2 {
		out = append(out, api.Pair{A: uint64(l[i]), B: uint64(l[i+1])})
	}
	return out
}

// P10.3
func TestFacts(t *testing.T) {
	g := laid()
	for r, want := range map[api.Relation][]api.Pair{
		{Kind: api.ReNode}:           pairs(0, 0, 1, 1, 3, 3),
		{Kind: api.ReLabel}:          pairs(0, 0, 3, 3),
		{Kind: api.ReLabel, Name: 1}: pairs(3, 3),
		{Kind: api.ReLabel, Name: 2}: pairs(0, 0, 3, 3),
		{Kind: api.ReProp}:           pairs(2, 0),
		{Kind: api.ReProp, Name: 1}:  pairs(1, 1, 2, 0),
		{Kind: api.ReProp, Name: 2}:  pairs(0, 0),
		{Kind: api.ReForth}:          pairs(0, 1, 0, 3, 1, 0),
		{Kind: api.ReForth, Name: 1}: pairs(0, 0, 3, 3),
		{Kind: api.ReBack}:           pairs(0, 1, 1, 0, 3, 0),
		{Kind: api.ReBack, Name: 1}:  pairs(0, 0, 3, 3),
	} {
		if l, e := graph.Facts(g, r); !slices.Equal(l, want) || e != api.OK {
			t.Errorf("Facts(%v): %v, %d, want %v", r, l, e, want)
		}
	}
	for _, r := range graph.Relations(withNodes()) {
		if l, e := graph.Facts(withNodes(), r); len(l) != 0 || e != api.OK {
			t.Errorf("without nodes: Facts(%v): %v, %d", r, l, e)
		}
	}
	if l, e := graph.Facts(graph.New(), api.Relation{}); len(l) != 0 || e != api.OK {
		t.Errorf("New: %v, %d", l, e)
	}
}

// P10.3: what is none of the graph's relations.
func TestFactsOfNone(t *testing.T) {
	names := []int{math.MinInt, -128, -1, 0, 1, 2, 3, 4, 127, 128, 1 << 32, math.MaxInt}
	kinds := []int{math.MinInt, -1, 0, 1, 2, 3, 4, 5, 6, 256, 1 << 32, math.MaxInt}
	for s, g := range graphs() {
		l := graph.Relations(g)
		for _, kind := range kinds {
			for _, name := range names {
				r := api.Relation{Kind: kind, Name: name}
				out, e := graph.Facts(g, r)
				if slices.Contains(l, r) != (e == api.OK) || e != api.OK && (e != api.ErrArg || len(out) != 0) {
					t.Errorf("%s: Facts(%v): %v, %d", s, r, out, e)
				}
			}
		}
	}
}

// P10.3: the chapter's examples.
func TestFactsExample(t *testing.T) {
	m, g := did(t, example()...)
	for kind, want := range map[int][]api.Pair{api.ReForth: pairs(0, 1, 1, 1), api.ReBack: pairs(1, 0, 1, 1), api.ReProp: pairs(0, 0)} {
		if l, e := graph.Facts(g, api.Relation{Kind: kind}); !slices.Equal(l, want) || e != api.OK {
			t.Errorf("kind %d: %v, %d, want %v", kind, l, e, want)
		}
	}
	checkFacts(t, m, g)
}

// greatest has all names, and all that nodes and edges can have.
func greatest() api.Graph {
	g := graph.New()
	for kind := range g.Dict.Kinds {
		for _, name := range named(128) {
			g.Dict, _, _ = dict.Put(g.Dict, kind, name)
		}
	}
	for id := range 128 {
		n := api.Node{Id: id}
		for name := range 128 {
			n.Labels = append(n.Labels, name)
			n.Props = append(n.Props, api.Prop{Name: name, Value: (127*id + name) % 128})
		}
		g.Nodes = append(g.Nodes, n)
	}
	for i := range 128 * 128 * 128 {
		g.Edges = append(g.Edges, api.Edge{Type: i / 128 / 128, From: i / 128 % 128, To: i % 128})
	}
	return g
}

// P10.3, P10.4: the graph that has all; its facts, and what changes it.
func TestGreatest(t *testing.T) {
	g := greatest()
	if e := graph.Check(g); e != api.OK {
		t.Fatalf("Check: %d", e)
	}
	if l := graph.Relations(g); len(l) != 1+4*128 {
		t.Errorf("%d relations", len(l))
	}
	for _, kind := range []int{api.ReForth, api.ReBack} {
		for _, name := range []int{0, 1, 127} {
			l, e := graph.Facts(g, api.Relation{Kind: kind, Name: name})
			if len(l) != 128*128 || e != api.OK {
				t.Fatalf("kind %d: %d facts, %d", kind, len(l), e)
			}
			for i, p := range l {
				if p.A != uint64(i/128) || p.B != uint64(i%128) {
					t.Fatalf("kind %d: fact %d: %v", kind, i, p)
				}
			}
		}
	}
	for _, name := range []int{0, 1, 127} {
		l, e := graph.Facts(g, api.Relation{Kind: api.ReProp, Name: name})
		if len(l) != 128 || e != api.OK {
			t.Fatalf("%d values, %d", len(l), e)
		}
		for i, p := range l {
			if p.A != uint64(i) || (127*p.B+uint64(name))%128 != p.A {
				t.Fatalf("property %d: fact %d: %v", name, i, p)
			}
		}
	}
	var l []api.Change
	for i := range 64 {
		l = append(l, drop("n"+strconv.Itoa(2*i)))
	}
	out, n, e := graph.Do(g, l...)
	if n != 64 || e != api.OK || len(out.Nodes) != 64 || len(out.Edges) != 128*64*64 || graph.Check(out) != api.OK {
		t.Errorf("each second one dropped: %d, %d, %d nodes, %d edges", n, e, len(out.Nodes), len(out.Edges))
	}
}
