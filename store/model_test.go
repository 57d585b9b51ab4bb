package store_test

import (
	"math"
	"slices"
	"strconv"
	"testing"

	"colander/api"
	"colander/dict"
	"colander/graph"
	"colander/merge"
	"colander/store"
	"colander/tiers"
)

const most = math.MaxUint64

func add(key string) api.Change  { return api.Change{Kind: api.ChAdd, Key: key} }
func drop(key string) api.Change { return api.Change{Kind: api.ChDrop, Key: key} }
func label(key, name string) api.Change {
	return api.Change{Kind: api.ChLabel, Key: key, Name: name}
}
func unlabel(key, name string) api.Change {
	return api.Change{Kind: api.ChUnlabel, Key: key, Name: name}
}
func set(key, name, value string) api.Change {
	return api.Change{Kind: api.ChSet, Key: key, Name: name, Value: value}
}
func unset(key, name string) api.Change {
	return api.Change{Kind: api.ChUnset, Key: key, Name: name}
}
func link(key, name, to string) api.Change {
	return api.Change{Kind: api.ChLink, Key: key, Name: name, To: to}
}
func unlink(key, name, to string) api.Change {
	return api.Change{Kind: api.ChUnlink, Key: key, Name: name, To: to}
}

// pairs are of two numbers each.
func pairs(l ...uint64) []api.Pair {
	var out []api.Pair
	for i := 0; i+1 < len(l); i += 2 {
		out = append(out, api.Pair{A: l[i], B: l[i+1]})
	}
	return out
}

// many are so many pairs in order, none of them of ids.
func many(n int, a uint64) []api.Pair {
	out := make([]api.Pair, n)
	for i := range out {
		out[i] = api.Pair{A: a, B: uint64(i)}
	}
	return out
}

func of(kind, name int) api.Relation { return api.Relation{Kind: kind, Name: name} }

// shelf is of tiers: of each what it adds, and what it drops.
func shelf(r api.Relation, rows ...[]api.Pair) api.Shelf {
	out := api.Shelf{Of: r}
	for i := 0; i+1 < len(rows); i += 2 {
		out.Tiers = append(out.Tiers, api.Tier{Adds: rows[i], Drops: rows[i+1]})
	}
	return out
}

// named is a dictionary that has of each kind the names that are told behind it: their number.
func named(t *testing.T, l ...int) api.Dict {
	t.Helper()
	d := dict.New()
	for i := 0; i+1 < len(l); i += 2 {
		for n := range l[i+1] {
			var e api.Errno
			if d, _, e = dict.Put(d, l[i], "n"+strconv.Itoa(n)); e != api.OK {
				t.Fatal(e)
			}
		}
	}
	return d
}

// done are stores that changes come to, behind one batch each.
func done(t *testing.T, batches ...[]api.Change) api.Store {
	t.Helper()
	s := store.New()
	for _, l := range batches {
		var e api.Errno
		if s, _, e = store.Do(s, l...); e != api.OK {
			t.Fatalf("Do(%v): %d", l, e)
		}
	}
	return s
}

func stepped(t *testing.T, s api.Store, n int) api.Store {
	t.Helper()
	out, _, e := store.Step(s, n)
	if e != api.OK {
		t.Fatalf("Step(%d): %d", n, e)
	}
	return out
}

func batch(l ...api.Change) []api.Change { return l }

// example is a store that has something of all that there is: two tiers on most of its shelves.
func example(t *testing.T) api.Store {
	t.Helper()
	return done(t,
		batch(add("ann"), add("bob"), add("cy"), label("ann", "p"), label("bob", "p"), set("ann", "age", "7"), set("bob", "age", "8"), link("ann", "knows", "bob"), link("cy", "knows", "ann"), link("bob", "likes", "bob")),
		batch(drop("bob"), add("dan"), label("dan", "q"), unlabel("ann", "p"), set("ann", "age", "8"), set("cy", "age", "7"), link("dan", "knows", "ann")),
	)
}

// deep is a copy that shares nothing, with room behind the end of each list.
func deep(s api.Store) api.Store {
	out := s
	for kind, t := range s.Dict.Kinds {
		out.Dict.Kinds[kind] = api.Table{Texts: roomy(t.Texts, "room"), Slots: roomy(t.Slots, -9)}
	}
	out.Shelves = roomy(s.Shelves, api.Shelf{})
	for i, x := range s.Shelves {
		out.Shelves[i].Tiers = roomy(x.Tiers, api.Tier{})
		for j, t := range x.Tiers {
			out.Shelves[i].Tiers[j] = deepTier(t)
		}
	}
	out.Merge.Older, out.Merge.Newer, out.Merge.Out = deepTier(s.Merge.Older), deepTier(s.Merge.Newer), deepTier(s.Merge.Out)
	return out
}

func deepTier(t api.Tier) api.Tier {
	behind := api.Pair{A: 99, B: 99}
	return api.Tier{Adds: roomy(t.Adds, behind), Drops: roomy(t.Drops, behind)}
}

func roomy[T any](l []T, behind T) []T {
	return append(slices.Clone(l), behind, behind, behind)[:len(l)]
}

// rows are the runs of a store, of its merge too.
func rows(s api.Store) [][]api.Pair {
	var out [][]api.Pair
	all := []api.Tier{s.Merge.Older, s.Merge.Newer, s.Merge.Out}
	for _, x := range s.Shelves {
		all = append(all, x.Tiers...)
	}
	for _, t := range all {
		out = append(out, t.Adds, t.Drops)
	}
	return out
}

// alike tells whether two stores are the same, part by part, the room behind the ends of their lists too.
func alike(a, b api.Store) bool {
	for kind := range a.Dict.Kinds {
		x, y := a.Dict.Kinds[kind], b.Dict.Kinds[kind]
		if !same(x.Texts, y.Texts) || !same(x.Slots, y.Slots) {
			return false
		}
	}
	if a.Open != b.Open || a.Of != b.Of || a.Merge.At != b.Merge.At || a.Merge.Oldest != b.Merge.Oldest || cap(a.Shelves) != cap(b.Shelves) {
		return false
	}
	return slices.EqualFunc(whole(a.Shelves), whole(b.Shelves), func(x, y api.Shelf) bool {
		return x.Of == y.Of && slices.EqualFunc(whole(x.Tiers), whole(y.Tiers), func(p, q api.Tier) bool { return same(p.Adds, q.Adds) && same(p.Drops, q.Drops) })
	}) && slices.EqualFunc(rows(a), rows(b), same[api.Pair])
}

func whole[T any](l []T) []T { return l[:cap(l)] }

func same[T comparable](a, b []T) bool { return slices.Equal(whole(a), whole(b)) }

// spoil writes over all of an answer, a number of its own into each list, and looks whether one list is reached from another.
func spoil(t *testing.T, what string, s api.Store) {
	t.Helper()
	for i, l := range rows(s) {
		fill(l, api.Pair{A: 5000 + uint64(i)})
	}
	for kind, x := range s.Dict.Kinds {
		fill(x.Texts, "spoilt"+strconv.Itoa(kind))
		fill(x.Slots, -100-kind)
	}
	for i, l := range rows(s) {
		for _, p := range whole(l) {
			if p.A != 5000+uint64(i) {
				t.Errorf("%s: two lists of the answer are one memory", what)
			}
		}
	}
	for kind, x := range s.Dict.Kinds {
		if len(x.Texts) > 0 && x.Texts[0] != "spoilt"+strconv.Itoa(kind) || len(x.Slots) > 0 && x.Slots[0] != -100-kind {
			t.Errorf("%s: two tables of the answer are one memory", what)
		}
	}
	for _, x := range s.Shelves {
		fill(x.Tiers, api.Tier{Adds: pairs(0, 77)})
	}
	fill(s.Shelves, api.Shelf{Of: of(-7, -7)})
}

func fill[T any](l []T, with T) {
	l = whole(l)
	for i := range l {
		l[i] = with
	}
}

func nothingGraph(g api.Graph) bool {
	for _, x := range g.Dict.Kinds {
		if x.Texts != nil || x.Slots != nil {
			return false
		}
	}
	return g.Nodes == nil && g.Edges == nil
}

// nothing tells whether a store is zero.
func nothing(s api.Store) bool {
	for _, l := range rows(s) {
		if l != nil {
			return false
		}
	}
	return nothingGraph(api.Graph{Dict: s.Dict}) && s.Shelves == nil && !s.Open && s.Of == of(0, 0) && s.Merge.At == 0 && !s.Merge.Oldest
}

// isSettled is the chapter's words of a store that may be.
func isSettled(s api.Store) bool {
	for _, x := range s.Shelves {
		if len(x.Tiers) > 1 {
			return false
		}
		for _, t := range x.Tiers {
			if len(t.Drops) > 0 {
				return false
			}
		}
	}
	return !s.Open
}

// mayMerge is the chapter's words of what is being merged.
func mayMerge(s api.Store) bool {
	if !s.Open {
		return s.Of == of(0, 0) && merge.Same(s.Merge, api.Merge{})
	}
	for _, x := range s.Shelves {
		if x.Of == s.Of && len(x.Tiers) > 1 {
			m := s.Merge
			return merge.Check(m) == api.OK && m.Oldest && tiers.Same([]api.Tier{m.Older, m.Newer}, x.Tiers[:2])
		}
	}
	return false
}

// told is what a graph, or a store, has as facts, relation by relation, as one text.
func told(relations []api.Relation, facts func(api.Relation) []api.Pair) string {
	out := ""
	for _, r := range relations {
		out += strconv.Itoa(r.Kind) + "." + strconv.Itoa(r.Name) + ":"
		for _, p := range facts(r) {
			out += " " + strconv.FormatUint(p.A, 10) + "-" + strconv.FormatUint(p.B, 10)
		}
		out += "\n"
	}
	return out
}

// allGraphs are all graphs of a small dictionary, by their facts.
func allGraphs(t *testing.T, d api.Dict) map[string]api.Graph {
	t.Helper()
	size := func(kind int) int { return len(dict.Names(d, kind)) }
	all := [][]api.Node{nil}
	for id := range size(api.DiNode) {
		nodes := []api.Node{{Id: id}}
		for name := range size(api.DiLabel) {
			for _, n := range slices.Clone(nodes) {
				n.Labels = append(slices.Clone(n.Labels), name)
				nodes = append(nodes, n)
			}
		}
		for name := range size(api.DiProp) {
			for _, n := range slices.Clone(nodes) {
				for value := range size(api.DiValue) {
					nodes = append(nodes, api.Node{Id: id, Labels: n.Labels, Props: append(slices.Clone(n.Props), api.Prop{Name: name, Value: value})})
				}
			}
		}
		for _, l := range slices.Clone(all) {
			for _, n := range nodes {
				all = append(all, append(slices.Clone(l), n))
			}
		}
	}
	out := map[string]api.Graph{}
	for _, nodes := range all {
		edges := [][]api.Edge{nil}
		for name := range size(api.DiType) {
			for _, from := range nodes {
				for _, to := range nodes {
					for _, l := range slices.Clone(edges) {
						edges = append(edges, append(slices.Clone(l), api.Edge{Type: name, From: from.Id, To: to.Id}))
					}
				}
			}
		}
		for _, l := range edges {
			g := api.Graph{Dict: d, Nodes: nodes, Edges: l}
			if graph.Check(g) != api.OK {
				t.Fatalf("%v is no graph", g)
			}
			out[factsOf(g)] = g
		}
	}
	return out
}

func factsOf(g api.Graph) string {
	return told(graph.Relations(g), func(r api.Relation) []api.Pair {
		l, _ := graph.Facts(g, r)
		return l
	})
}

// contentOf is what the tiers of all shelves come to.
func contentOf(s api.Store) string {
	var l []api.Relation
	content := map[api.Relation][]api.Pair{}
	for _, x := range s.Shelves {
		l = append(l, x.Of)
		content[x.Of] = tiers.Content(x.Tiers)
	}
	return told(l, func(r api.Relation) []api.Pair { return content[r] })
}

// mustBe holds all that a store tells against a graph.
func mustBe(t *testing.T, what string, s api.Store, g api.Graph) {
	t.Helper()
	if e := store.Check(s); e != api.OK {
		t.Fatalf("%s: Check: %d", what, e)
	}
	if is, e := store.Graph(s); e != api.OK || !graph.Same(is, g) || graph.Check(is) != api.OK {
		t.Fatalf("%s: Graph: %v, %d, want %v", what, is, e, g)
	}
	l := graph.Relations(g)
	if !slices.EqualFunc(s.Shelves, l, func(x api.Shelf, r api.Relation) bool { return x.Of == r }) {
		t.Fatalf("%s: shelves %v, want those of %v", what, s.Shelves, l)
	}
	for _, r := range l {
		want, _ := graph.Facts(g, r)
		if is, e := store.Facts(s, r); e != api.OK || !slices.Equal(is, want) {
			t.Fatalf("%s: Facts(%v): %v, %d, want %v", what, r, is, e, want)
		}
	}
	if !mayMerge(s) || store.Settled(s) != isSettled(s) {
		t.Fatalf("%s: Settled: %t, of %v", what, store.Settled(s), s)
	}
}

// mustNotBe asks all calls of a store that may not be.
func mustNotBe(t *testing.T, what string, s api.Store) {
	t.Helper()
	if e := store.Check(s); e != api.ErrStore {
		t.Errorf("%s: Check: %d", what, e)
	}
	if g, e := store.Graph(s); e != api.ErrStore || !nothingGraph(g) {
		t.Errorf("%s: Graph: %v, %d", what, g, e)
	}
	for _, r := range []api.Relation{of(0, 0), of(1, 0), of(-1, 0), of(3, 500)} {
		if l, e := store.Facts(s, r); e != api.ErrStore || l != nil {
			t.Errorf("%s: Facts(%v): %v, %d", what, r, l, e)
		}
	}
	for _, l := range [][]api.Change{nil, {add("eve")}, {add("eve"), {}}, {drop("nobody")}} {
		if x, n, e := store.Do(s, l...); e != api.ErrStore || n != 0 || !nothing(x) {
			t.Errorf("%s: Do(%v): %v, %d, %d", what, l, x, n, e)
		}
	}
	for _, n := range []int{0, 1, -1, math.MaxInt, math.MinInt} {
		if x, n, e := store.Step(s, n); e != api.ErrStore || n != 0 || !nothing(x) {
			t.Errorf("%s: Step(%d): %v, %d, %d", what, n, x, n, e)
		}
	}
	if store.Settled(s) {
		t.Errorf("%s: it is settled", what)
	}
}

// next is a number of a row that looks like chance and is always the same.
func next(x *uint64) uint64 {
	*x = *x*6364136223846793005 + 1442695040888963407
	return *x >> 33
}

// someChange is one of few names: often it can be done, often not.
func someChange(x *uint64) api.Change {
	name := func(l ...string) string { return l[next(x)%uint64(len(l))] }
	key := func() string { return name("ann", "bob", "cy", "dan") }
	switch next(x) % 9 {
	case 0, 1:
		return add(key())
	case 2:
		return drop(key())
	case 3:
		return label(key(), name("p", "q"))
	case 4:
		return unlabel(key(), name("p", "q"))
	case 5:
		return set(key(), name("age", "town"), name("7", "8", "Rome"))
	case 6:
		return unset(key(), name("age", "town"))
	case 7:
		return link(key(), name("knows", "likes"), key())
	}
	return unlink(key(), name("knows", "likes"), key())
}
