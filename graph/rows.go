package graph

import (
	"cmp"
	"slices"
	"sort"

	"colander/api"
	"colander/dict"
)

// found is where in a row something stands, or would stand, and whether it stands there. Of each one of the row, which is in order, it is told how what is sought compares with that.
func found[T any](l []T, sought func(T) int) (int, bool) {
	return sort.Find(len(l), func(at int) int { return sought(l[at]) })
}

func nodeAt(l []api.Node, id int) (int, bool) {
	return found(l, func(n api.Node) int { return cmp.Compare(id, n.Id) })
}

func labelAt(l []int, id int) (int, bool) {
	return found(l, func(label int) int { return cmp.Compare(id, label) })
}

func propAt(l []api.Prop, name int) (int, bool) {
	return found(l, func(p api.Prop) int { return cmp.Compare(name, p.Name) })
}

func edgeAt(l []api.Edge, e api.Edge) (int, bool) {
	return found(l, func(x api.Edge) int { return compareEdges(e, x) })
}

// edgesOf are those of a type, which stand side by side.
func edgesOf(l []api.Edge, name int) []api.Edge {
	from, _ := found(l, func(x api.Edge) int { return cmp.Compare(name, x.Type) })
	to, _ := found(l, func(x api.Edge) int { return cmp.Compare(name+1, x.Type) })
	return l[from:to]
}

// nodeOf is where the node of a key stands.
func nodeOf(g api.Graph, key string) (int, bool) {
	id, known := dict.Id(g.Dict, api.DiNode, key)
	if !known {
		return 0, false
	}
	return nodeAt(g.Nodes, id)
}

func compareEdges(a, b api.Edge) int {
	return cmp.Or(cmp.Compare(a.Type, b.Type), cmp.Compare(a.From, b.From), cmp.Compare(a.To, b.To))
}

func comparePairs(a, b api.Pair) int {
	return cmp.Or(cmp.Compare(a.A, b.A), cmp.Compare(a.B, b.B))
}

func sameNode(a, b api.Node) bool {
	return a.Id == b.Id && slices.Equal(a.Labels, b.Labels) && slices.Equal(a.Props, b.Props)
}

func copiedNode(n api.Node) api.Node {
	return api.Node{Id: n.Id, Labels: slices.Clone(n.Labels), Props: slices.Clone(n.Props)}
}

func copied(g api.Graph) api.Graph {
	out := api.Graph{Nodes: make([]api.Node, len(g.Nodes)), Edges: slices.Clone(g.Edges)}
	for kind, t := range g.Dict.Kinds {
		out.Dict.Kinds[kind] = api.Table{Texts: slices.Clone(t.Texts), Slots: slices.Clone(t.Slots)}
	}
	for i, n := range g.Nodes {
		out.Nodes[i] = copiedNode(n)
	}
	return out
}
