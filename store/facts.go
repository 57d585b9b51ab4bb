package store

import (
	"cmp"
	"slices"

	"colander/api"
	"colander/graph"
)

// relations are those of a dictionary that may be, in order.
func relations(d api.Dict) []api.Relation {
	return graph.Relations(api.Graph{Dict: d})
}

// factsOf are the facts of each relation of a graph that may be, gathered in one way through it.
func factsOf(g api.Graph) map[api.Relation][]api.Pair {
	out := map[api.Relation][]api.Pair{}
	put := func(kind, name, a, b int) {
		r := api.Relation{Kind: kind, Name: name}
		out[r] = append(out[r], api.Pair{A: uint64(a), B: uint64(b)})
	}
	for _, n := range g.Nodes {
		put(api.ReNode, 0, n.Id, n.Id)
		for _, id := range n.Labels {
			put(api.ReLabel, id, n.Id, n.Id)
		}
		for _, p := range n.Props {
			put(api.ReProp, p.Name, p.Value, n.Id)
		}
	}
	for _, x := range g.Edges {
		put(api.ReForth, x.Type, x.From, x.To)
		put(api.ReBack, x.Type, x.To, x.From)
	}
	for _, l := range out {
		// Both numbers are ids: one number tells how pairs of them stand in order.
		inOrder(l, func(p api.Pair) uint64 { return p.A*api.MaxNames + p.B })
	}
	return out
}

func inOrder[T any, K cmp.Ordered](l []T, key func(T) K) {
	slices.SortFunc(l, func(x, y T) int { return cmp.Compare(key(x), key(y)) })
}

// graphOf is the graph that has those facts, if there is one. If there is none, what comes is no graph, or has others.
func graphOf(d api.Dict, facts map[api.Relation][]api.Pair) api.Graph {
	out := api.Graph{Dict: copiedDict(d)}
	places := map[uint64]int{}
	for _, p := range facts[api.Relation{Kind: api.ReNode}] {
		places[p.A] = len(out.Nodes)
		out.Nodes = append(out.Nodes, api.Node{Id: int(p.A)})
	}
	node := func(id uint64) *api.Node {
		at, there := places[id]
		must(there)
		return &out.Nodes[at]
	}
	for _, r := range relations(d) {
		for _, p := range facts[r] {
			switch r.Kind {
			case api.ReLabel:
				n := node(p.B)
				n.Labels = append(n.Labels, r.Name)
			case api.ReProp:
				n := node(p.B)
				n.Props = append(n.Props, api.Prop{Name: r.Name, Value: int(p.A)})
			case api.ReForth:
				out.Edges = append(out.Edges, api.Edge{Type: r.Name, From: int(p.A), To: int(p.B)})
			}
		}
	}
	return out
}
