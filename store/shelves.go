package store

import (
	"iter"
	"slices"

	"colander/api"
	"colander/graph"
	"colander/merge"
	"colander/run"
	"colander/tiers"
)

// shelves tells each relation, and its tiers, in order of the relations.
func shelves(s api.Store) iter.Seq2[api.Relation, []api.Tier] {
	return func(yield func(api.Relation, []api.Tier) bool) {
		for _, x := range s.Shelves {
			if !yield(x.Of, x.Tiers) {
				return
			}
		}
	}
}

// shelfOf is the place of a relation's shelf, or -1.
func shelfOf(s api.Store, r api.Relation) int {
	return slices.IndexFunc(s.Shelves, func(x api.Shelf) bool { return x.Of == r })
}

// laid is a store of a graph that may be: its facts are what has come to a store of nothing at all, and lie in one tier each.
func laid(g api.Graph) api.Store {
	return changed(api.Store{}, nil, g)
}

// changed is a store that had those facts, and comes to a graph: what is new of each relation, and what is gone, is one tier more on its shelf.
func changed(s api.Store, was map[api.Relation][]api.Pair, g api.Graph) api.Store {
	out := copied(s)
	kept := map[api.Relation][]api.Tier{}
	for r, l := range shelves(out) {
		kept[r] = l
	}
	is := factsOf(g)
	out.Dict, out.Shelves = copiedDict(g.Dict), nil
	for at, r := range graph.Relations(g) {
		out.Shelves = append(out.Shelves, api.Shelf{Of: r, Tiers: kept[r]})
		push(&out, at, minus(is[r], was[r]), minus(was[r], is[r]))
	}
	return out
}

// minus is of facts, which are runs.
func minus(a, b []api.Pair) []api.Pair {
	out, _ := run.Minus(a, b)
	return out
}

func push(s *api.Store, at int, adds, drops []api.Pair) {
	if len(adds) == 0 && len(drops) == 0 {
		return
	}
	if len(s.Shelves[at].Tiers) == api.MaxTiers {
		squeeze(s, at)
	}
	s.Shelves[at].Tiers, _ = tiers.Push(s.Shelves[at].Tiers, adds, drops)
}

// squeeze makes at once one tier of all of a shelf; where these were being merged, there is nothing left to be merged.
func squeeze(s *api.Store, at int) {
	x := &s.Shelves[at]
	// That is never too much for one tier: it is what the relation has as facts.
	x.Tiers, _ = tiers.Least(x.Tiers)
	if s.Open && s.Of == x.Of {
		shut(s)
	}
}

func shut(s *api.Store) {
	s.Open, s.Of, s.Merge = false, api.Relation{}, api.Merge{}
}

// copied shares nothing with the store, which may be.
func copied(s api.Store) api.Store {
	out := api.Store{Dict: copiedDict(s.Dict), Open: s.Open, Of: s.Of}
	for r, l := range shelves(s) {
		out.Shelves = append(out.Shelves, api.Shelf{Of: r, Tiers: copiedTiers(l)})
	}
	if s.Open {
		out.Merge, _, _ = merge.Step(s.Merge, 0)
	}
	return out
}

func copiedTiers(l []api.Tier) []api.Tier {
	var out []api.Tier
	for _, t := range l {
		out = append(out, api.Tier{Adds: slices.Clone(t.Adds), Drops: slices.Clone(t.Drops)})
	}
	return out
}

func copiedDict(d api.Dict) api.Dict {
	var out api.Dict
	for kind, t := range d.Kinds {
		out.Kinds[kind] = api.Table{Texts: slices.Clone(t.Texts), Slots: slices.Clone(t.Slots)}
	}
	return out
}
