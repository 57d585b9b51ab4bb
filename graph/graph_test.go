package graph_test

import (
	"math"
	"slices"
	"strconv"
	"strings"
	"testing"

	"colander/api"
	"colander/dict"
	"colander/graph"
	"colander/table"
)

// P10.1
func TestNew(t *testing.T) {
	g := graph.New()
	if graph.Check(g) != api.OK || !dict.Same(g.Dict, dict.New()) || len(g.Nodes) != 0 || len(g.Edges) != 0 {
		t.Errorf("New: %v", g)
	}
	for kind := range g.Dict.Kinds {
		if l := dict.Names(g.Dict, kind); len(l) != 0 {
			t.Errorf("New: names %v", l)
		}
	}
	spoil(g)
	if graph.Check(graph.New()) != api.OK {
		t.Errorf("New is not new")
	}
}

// laid is a graph of 4 keys, 3 labels, 2 types, 3 properties, 3 values, whose nodes are 0, 1 and 3.
func laid() api.Graph {
	g := graph.New()
	for kind, l := range [][]string{{"a", "b", "c", "d"}, {"p", "q", "r"}, {"s", "t"}, {"u", "v", "w"}, {"", "X y", "~"}} {
		g.Dict.Kinds[kind], _, _ = table.All(table.New(), l...)
	}
	g.Nodes = []api.Node{
		{Id: 0, Labels: []int{0, 2}, Props: []api.Prop{{Name: 0, Value: 2}, {Name: 1, Value: 2}, {Name: 2, Value: 0}}},
		{Id: 1, Labels: []int{}, Props: []api.Prop{{Name: 1, Value: 1}}},
		{Id: 3, Labels: []int{0, 1, 2}},
	}
	g.Edges = []api.Edge{{Type: 0, From: 0, To: 1}, {Type: 0, From: 0, To: 3}, {Type: 0, From: 1, To: 0}, {Type: 1, From: 0, To: 0}, {Type: 1, From: 3, To: 3}}
	return g
}

func withNodes(l ...api.Node) api.Graph {
	g := laid()
	g.Nodes, g.Edges = l, nil
	return g
}

func withEdges(l ...api.Edge) api.Graph {
	g := laid()
	g.Edges = l
	return g
}

func withDict(change func(d *api.Dict)) api.Graph {
	g := laid()
	change(&g.Dict)
	return g
}

// graphs may be, and no two of them are the same.
func graphs() map[string]api.Graph {
	withoutNode := withNodes(laid().Nodes[:2]...)
	withoutNode.Edges = []api.Edge{{Type: 1, From: 0, To: 0}}
	spared := graph.New()
	spared.Nodes = []api.Node{}
	spared.Dict.Kinds[1], _, _ = table.All(table.New(), "spare")
	return map[string]api.Graph{
		"new":                     graph.New(),
		"a spare name":            spared,
		"laid":                    laid(),
		"without nodes":           withNodes(),
		"the last key alone":      withNodes(api.Node{Id: 3}),
		"the first key alone":     withNodes(api.Node{Id: 0}),
		"another label":           withNodes(api.Node{Id: 0, Labels: []int{1}}),
		"one more":                withNodes(api.Node{Id: 0, Labels: []int{1, 2}}),
		"a property":              withNodes(api.Node{Id: 0, Props: []api.Prop{{Name: 2, Value: 1}}}),
		"another value":           withNodes(api.Node{Id: 0, Props: []api.Prop{{Name: 2, Value: 2}}}),
		"another property":        withNodes(api.Node{Id: 0, Props: []api.Prop{{Name: 1, Value: 2}}}),
		"without edges":           withEdges(),
		"an edge":                 withEdges(api.Edge{Type: 1, From: 0, To: 3}),
		"turned":                  withEdges(api.Edge{Type: 1, From: 3, To: 0}),
		"of another type":         withEdges(api.Edge{Type: 0, From: 0, To: 3}),
		"to another one":          withEdges(api.Edge{Type: 1, From: 0, To: 1}),
		"from another one":        withEdges(api.Edge{Type: 1, From: 1, To: 3}),
		"edges, one type":         withEdges(api.Edge{From: 1, To: 3}, api.Edge{From: 3, To: 0}, api.Edge{From: 3, To: 1}),
		"an edge to itself":       withEdges(api.Edge{Type: 1, From: 3, To: 3}),
		"without a node":          withoutNode,
		"another name":            withDict(func(d *api.Dict) { d.Kinds[2], _, _ = table.All(table.New(), "s", "tt") }),
		"names in another order":  withDict(func(d *api.Dict) { d.Kinds[1], _, _ = table.All(table.New(), "p", "r", "q") }),
		"one name more":           withDict(func(d *api.Dict) { d.Kinds[4], _, _ = table.Put(d.Kinds[4], "more") }),
		"one name more elsewhere": withDict(func(d *api.Dict) { d.Kinds[0], _, _ = table.Put(d.Kinds[0], "more") }),
	}
}

// noGraphs may not be, each for one reason.
func noGraphs() map[string]api.Graph {
	out := map[string]api.Graph{
		"nothing":         {},
		"nodes twice":     withNodes(api.Node{Id: 1}, api.Node{Id: 1}),
		"nodes fall":      withNodes(api.Node{Id: 1}, api.Node{Id: 0}),
		"nodes fall late": withNodes(api.Node{Id: 0}, api.Node{Id: 2}, api.Node{Id: 1}),
		"edges twice":     withEdges(api.Edge{}, api.Edge{}),
		"types fall":      withEdges(api.Edge{Type: 1}, api.Edge{From: 1, To: 1}),
		"froms fall":      withEdges(api.Edge{From: 1}, api.Edge{To: 1}),
		"tos fall":        withEdges(api.Edge{To: 1}, api.Edge{To: 0}),
		"types fall late": withEdges(api.Edge{}, api.Edge{Type: 1}, api.Edge{To: 1}),
		"a gone From":     withEdges(api.Edge{From: 2, To: 1}),
		"a gone To":       withEdges(api.Edge{From: 1, To: 2}),
		"a late gone To":  withEdges(api.Edge{}, api.Edge{To: 1}, api.Edge{To: 2}),
		"no nodes at all": {Dict: laid().Dict, Edges: []api.Edge{{}}},
		"a slot":          withDict(func(d *api.Dict) { d.Kinds[3].Slots[0] ^= 5 }),
		"no slots":        withDict(func(d *api.Dict) { d.Kinds[2].Slots = nil }),
		"no name":         withDict(func(d *api.Dict) { d.Kinds[0], _, _ = table.Put(d.Kinds[0], "A") }),
		"a long name":     withDict(func(d *api.Dict) { d.Kinds[1], _, _ = table.Put(d.Kinds[1], strings.Repeat("a", 33)) }),
		"no value":        withDict(func(d *api.Dict) { d.Kinds[4], _, _ = table.Put(d.Kinds[4], "\"") }),
		"too many names":  withDict(func(d *api.Dict) { d.Kinds[1], _, _ = table.All(table.New(), named(129)...) }),
	}
	for _, id := range []int{math.MinInt, -1, 4, 5, 128, 129, 1 << 32, math.MaxInt} {
		s := " " + strconv.Itoa(id)
		out["node"+s] = withNodes(api.Node{Id: id})
		out["late node"+s] = withNodes(api.Node{Id: 0}, api.Node{Id: id})
		out["from"+s] = withEdges(api.Edge{From: id})
		out["to"+s] = withEdges(api.Edge{To: id})
	}
	for _, id := range []int{math.MinInt, -1, 3, 4, 128, 1 << 32, math.MaxInt} {
		s := " " + strconv.Itoa(id)
		out["label"+s] = withNodes(api.Node{Labels: []int{id}})
		out["late label"+s] = withNodes(api.Node{}, api.Node{Id: 3, Labels: []int{1, id}})
		out["prop"+s] = withNodes(api.Node{Props: []api.Prop{{Name: id}}})
		out["late prop"+s] = withNodes(api.Node{}, api.Node{Id: 3, Props: []api.Prop{{Name: 1}, {Name: id}}})
		out["value"+s] = withNodes(api.Node{Props: []api.Prop{{Value: id}}})
		out["late value"+s] = withNodes(api.Node{}, api.Node{Id: 3, Props: []api.Prop{{Name: 1}, {Name: 2, Value: id}}})
	}
	for _, id := range []int{math.MinInt, -1, 2, 3, 128, 1 << 32, math.MaxInt} {
		s := " " + strconv.Itoa(id)
		out["type"+s] = withEdges(api.Edge{Type: id})
		out["late type"+s] = withEdges(api.Edge{Type: 1}, api.Edge{Type: id, To: 1})
	}
	for s, l := range map[string][]int{"twice": {1, 1}, "fall": {1, 0}, "fall late": {0, 2, 1}} {
		var props []api.Prop
		for i, id := range l {
			props = append(props, api.Prop{Name: id, Value: i})
		}
		out["labels "+s] = withNodes(api.Node{Id: 1, Labels: l})
		out["props "+s] = withNodes(api.Node{Id: 1, Props: props})
	}
	return out
}

// P10.1
func TestCheck(t *testing.T) {
	for s, g := range graphs() {
		if e := graph.Check(g); e != api.OK || !mayBe(g) {
			t.Errorf("%s: %d, %t", s, e, mayBe(g))
		}
	}
	for s, g := range noGraphs() {
		if e := graph.Check(g); e != api.ErrGraph || mayBe(g) {
			t.Errorf("%s: %d, %t", s, e, mayBe(g))
		}
	}
}

// P10.1: all rows of at most three numbers, as nodes, labels, properties, values.
func TestCheckRows(t *testing.T) {
	check := func(g api.Graph) {
		want := api.OK
		if !mayBe(g) {
			want = api.ErrGraph
		}
		if e := graph.Check(g); e != want {
			t.Fatalf("Check(%v): %d, want %d", g, e, want)
		}
	}
	for l := range rowsUpTo(3, []int{-1, 0, 1, 2, 3, 4}) {
		var nodes []api.Node
		var props, values []api.Prop
		for i, n := range l {
			nodes = append(nodes, api.Node{Id: n})
			props = append(props, api.Prop{Name: n, Value: 2 - i})
			values = append(values, api.Prop{Name: i, Value: n})
		}
		check(withNodes(nodes...))
		check(withNodes(api.Node{Id: 2, Labels: l}))
		check(withNodes(api.Node{Id: 2, Labels: []int{0}}, api.Node{Id: 3, Props: props}))
		check(withNodes(api.Node{Id: 2, Props: values}, api.Node{Id: 3, Labels: l}))
	}
}

// rowsUpTo tells all rows of at most so many of these.
func rowsUpTo[T any](most int, of []T) func(func([]T) bool) {
	return func(yield func([]T) bool) {
		rows := [][]T{nil}
		for at := 0; at < len(rows); at++ {
			if !yield(rows[at]) {
				return
			}
			for _, x := range of {
				if len(rows[at]) < most {
					rows = append(rows, append(slices.Clone(rows[at]), x))
				}
			}
		}
	}
}

// P10.1: all pairs of edges of few numbers.
func TestCheckEdges(t *testing.T) {
	var edges []api.Edge
	for ofType := -1; ofType <= 2; ofType++ {
		for from := -1; from <= 4; from++ {
			for to := -1; to <= 4; to++ {
				edges = append(edges, api.Edge{Type: ofType, From: from, To: to})
			}
		}
	}
	may := 0
	for l := range rowsUpTo(2, edges) {
		g := withEdges(l...)
		want := api.OK
		if !mayBe(g) {
			want = api.ErrGraph
		} else {
			may++
		}
		if e := graph.Check(g); e != want {
			t.Fatalf("Check of edges %v: %d, want %d", l, e, want)
		}
	}
	// 2 types, 3 nodes: 18 edges.
	if may != 1+18+18*17/2 {
		t.Errorf("%d that may be", may)
	}
}

// P10.1
func TestSame(t *testing.T) {
	for s, a := range graphs() {
		for z, b := range graphs() {
			if got := graph.Same(a, b); got != (s == z) {
				t.Errorf("Same(%s; %s): %t", s, z, got)
			}
		}
		for z, b := range noGraphs() {
			if got := graph.Same(a, b); got != alike(a, b) {
				t.Errorf("Same(%s; %s): %t", s, z, got)
			}
		}
	}
	for s, a := range noGraphs() {
		if !graph.Same(a, deep(a)) {
			t.Errorf("%s is not the same as itself", s)
		}
		for z, b := range noGraphs() {
			if got := graph.Same(a, b); got != alike(a, b) {
				t.Errorf("Same(%s; %s): %t", s, z, got)
			}
		}
	}
}

// P10.1: nil and empty are one; how slots lie is left open (6).
func TestSameLeftOpen(t *testing.T) {
	g := laid()
	wide := withDict(func(d *api.Dict) {
		d.Kinds[2].Slots = make([]int, 256)
		d.Kinds[2].Slots[table.Hash("s")%256] = 1
		d.Kinds[2].Slots[table.Hash("t")%256] = 2
	})
	wide.Nodes[1].Labels = nil
	wide.Nodes[2].Props = []api.Prop{}
	if graph.Check(wide) != api.OK || !graph.Same(g, wide) || !graph.Same(wide, g) {
		t.Errorf("laid otherwise: not the same")
	}
	if a := (api.Graph{Nodes: []api.Node{}, Edges: []api.Edge{}}); !graph.Same(a, api.Graph{}) {
		t.Errorf("nil and empty are two")
	}
}

// P10.2
func TestAt(t *testing.T) {
	g := laid()
	for i, key := range []string{"a", "b", "c", "d"} {
		at := []int{0, 1, -1, 2}[i]
		x, ok := graph.At(g, key)
		if at < 0 {
			if ok || !alikeNodes(x, api.Node{}) {
				t.Errorf("At(%s): %v, %t", key, x, ok)
			}
			continue
		}
		if !ok || !alikeNodes(x, g.Nodes[at]) {
			t.Errorf("At(%s): %v, %t", key, x, ok)
		}
	}
	for _, key := range []string{"", "e", "A", "p", "s", "u", "X y", "a ", "\x00", "\xff", strings.Repeat("a", 33), strings.Repeat("a", 1<<20)} {
		if x, ok := graph.At(g, key); ok || !alikeNodes(x, api.Node{}) {
			t.Errorf("At(%.50q): %v, %t", key, x, ok)
		}
	}
	if _, ok := graph.At(graph.New(), "a"); ok {
		t.Errorf("a new graph has a node")
	}
}

// P10.2: of the chapter's example.
func TestAtExample(t *testing.T) {
	m, g := did(t, example()...)
	x, ok := graph.At(g, "ann")
	if !ok || !alikeNodes(x, api.Node{Id: 0, Labels: []int{0}, Props: []api.Prop{{Name: 0, Value: 0}}}) {
		t.Errorf("At(ann): %v, %t", x, ok)
	}
	checkAt(t, m, g, "ann", "bob", "p", "age", "7", "")
}

// Errors: what takes a graph that may not be tells ErrGraph ahead of all else, or nothing.
func TestNoGraphs(t *testing.T) {
	many := make([]api.Change, 65)
	for s, g := range noGraphs() {
		was := deep(g)
		if x, ok := graph.At(g, "a"); ok || !alikeNodes(x, api.Node{}) {
			t.Errorf("%s: At: %v, %t", s, x, ok)
		}
		if l := graph.Relations(g); len(l) != 0 {
			t.Errorf("%s: Relations: %v", s, l)
		}
		for _, r := range []api.Relation{{}, {Name: 1}, {Kind: 1}, {Kind: -1}, {Kind: 9}} {
			if l, e := graph.Facts(g, r); len(l) != 0 || e != api.ErrGraph {
				t.Errorf("%s: Facts(%v): %v, %d", s, r, l, e)
			}
		}
		for _, l := range [][]api.Change{nil, {add("new")}, {{}}, many, {drop("nobody")}} {
			if out, n, e := graph.Do(g, l...); !nothing(out) || n != 0 || e != api.ErrGraph {
				t.Errorf("%s: Do(%v): %v, %d, %d", s, l, out, n, e)
			}
		}
		if !alike(g, was) {
			t.Errorf("%s became %v", s, g)
		}
	}
}
