package graph

import (
	"iter"

	"colander/api"
)

func relations(g api.Graph) []api.Relation {
	names := [...]int{
		api.ReLabel: api.DiLabel,
		api.ReProp:  api.DiProp,
		api.ReForth: api.DiType,
		api.ReBack:  api.DiType,
	}
	out := []api.Relation{{Kind: api.ReNode}}
	for kind := api.ReLabel; kind < len(names); kind++ {
		for id := range many(g.Dict, names[kind]) {
			out = append(out, api.Relation{Kind: kind, Name: id})
		}
	}
	return out
}

// facts tells those of a relation that the graph has, as nodes and edges stand: of values, and of edges back, that is not their order.
func facts(g api.Graph, r api.Relation) iter.Seq[api.Pair] {
	switch r.Kind {
	case api.ReNode:
		return ofNodes(g, func(n api.Node) (int, bool) { return n.Id, true })
	case api.ReLabel:
		return ofNodes(g, func(n api.Node) (int, bool) {
			_, has := labelAt(n.Labels, r.Name)
			return n.Id, has
		})
	case api.ReProp:
		return ofNodes(g, func(n api.Node) (int, bool) { return valueOf(n, r.Name) })
	case api.ReForth:
		return ofEdges(g, r.Name, func(x api.Edge) api.Pair { return pair(x.From, x.To) })
	}
	return ofEdges(g, r.Name, func(x api.Edge) api.Pair { return pair(x.To, x.From) })
}

// ofNodes tells, of each node of which there is a fact, what that has ahead of the node's id.
func ofNodes(g api.Graph, first func(api.Node) (int, bool)) iter.Seq[api.Pair] {
	return func(yield func(api.Pair) bool) {
		for _, n := range g.Nodes {
			if a, has := first(n); has && !yield(pair(a, n.Id)) {
				return
			}
		}
	}
}

func ofEdges(g api.Graph, name int, fact func(api.Edge) api.Pair) iter.Seq[api.Pair] {
	return func(yield func(api.Pair) bool) {
		for _, x := range edgesOf(g.Edges, name) {
			if !yield(fact(x)) {
				return
			}
		}
	}
}

func valueOf(n api.Node, name int) (int, bool) {
	at, has := propAt(n.Props, name)
	if !has {
		return 0, false
	}
	return n.Props[at].Value, true
}

func pair(a, b int) api.Pair {
	return api.Pair{A: uint64(a), B: uint64(b)}
}
