package store

import (
	"slices"

	"colander/api"
	"colander/dict"
	"colander/graph"
	"colander/merge"
	"colander/tiers"
)

// sight is what a store that may be comes to: its graph, and the facts of each of its relations.
type sight struct {
	graph api.Graph
	facts map[api.Relation][]api.Pair
}

// wrong is what leaves where something shows that a store may not be.
type wrong struct{}

func must(holds bool) {
	if !holds {
		panic(wrong{})
	}
}

// seen looks a store through. What is wrong with it is told in this one place; any other panic is a fault of this package itself, and goes on.
func seen(s api.Store) (x sight, e api.Errno) {
	defer func() {
		switch caught := recover().(type) {
		case nil:
		case wrong:
			x, e = sight{}, api.ErrStore
		default:
			panic(caught)
		}
	}()
	mustBeOfItsDict(s)
	x.facts = contents(s)
	x.graph = graphOf(s.Dict, x.facts)
	mustHave(x.graph, x.facts)
	mustMerge(s)
	return x, api.OK
}

func mustBeOfItsDict(s api.Store) {
	must(dict.Check(s.Dict) == api.OK)
	must(slices.EqualFunc(s.Shelves, relations(s.Dict), func(x api.Shelf, r api.Relation) bool { return x.Of == r }))
}

// contents are what the tiers of each shelf come to.
func contents(s api.Store) map[api.Relation][]api.Pair {
	out := map[api.Relation][]api.Pair{}
	for r, l := range shelves(s) {
		must(tiers.Check(l) == api.OK)
		out[r] = tiers.Content(l)
		// No fact has a number that is no id: what is asked of facts from here on is asked of few, and small ones.
		must(!slices.ContainsFunc(out[r], func(p api.Pair) bool { return max(p.A, p.B) >= api.MaxNames }))
	}
	return out
}

// mustHave is asked of the only graph that could have those facts.
func mustHave(g api.Graph, facts map[api.Relation][]api.Pair) {
	must(graph.Check(g) == api.OK)
	is := factsOf(g)
	for _, r := range relations(g.Dict) {
		must(slices.Equal(is[r], facts[r]))
	}
}

// mustMerge is asked of stores whose shelves may be.
func mustMerge(s api.Store) {
	if !s.Open {
		must(s.Of == api.Relation{} && merge.Same(s.Merge, api.Merge{}))
		return
	}
	at := shelfOf(s, s.Of)
	must(at >= 0 && len(s.Shelves[at].Tiers) >= 2)
	must(merge.Check(s.Merge) == api.OK && s.Merge.Oldest)
	must(tiers.Same(s.Shelves[at].Tiers[:2], []api.Tier{s.Merge.Older, s.Merge.Newer}))
}
