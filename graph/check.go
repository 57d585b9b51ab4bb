package graph

import "colander/api"

// many is how many names of a kind a dictionary has that may be: all numbers below it are ids.
func many(d api.Dict, kind int) int {
	return len(d.Kinds[kind].Texts)
}

func nodesMayBe(g api.Graph) bool {
	labels, props, values := many(g.Dict, api.DiLabel), many(g.Dict, api.DiProp), many(g.Dict, api.DiValue)
	if !rise(g.Nodes, many(g.Dict, api.DiNode), func(n api.Node) int { return n.Id }) {
		return false
	}
	for _, n := range g.Nodes {
		if !rise(n.Labels, labels, func(id int) int { return id }) || !rise(n.Props, props, func(p api.Prop) int { return p.Name }) {
			return false
		}
		for _, p := range n.Props {
			if !isBelow(p.Value, values) {
				return false
			}
		}
	}
	return true
}

// edgesMayBe is asked of graphs whose nodes may be alone.
func edgesMayBe(g api.Graph) bool {
	var there [api.MaxNames]bool
	for _, n := range g.Nodes {
		there[n.Id] = true
	}
	isNode := func(id int) bool { return isBelow(id, len(there)) && there[id] }
	types := many(g.Dict, api.DiType)
	for i, x := range g.Edges {
		if !isBelow(x.Type, types) || !isNode(x.From) || !isNode(x.To) {
			return false
		}
		if i > 0 && compareEdges(g.Edges[i-1], x) >= 0 {
			return false
		}
	}
	return true
}

// rise tells whether the numbers of a row rise, from 0 on, and are all below an end.
func rise[T any](l []T, end int, number func(T) int) bool {
	least := 0
	for _, x := range l {
		n := number(x)
		if n < least || n >= end {
			return false
		}
		least = n + 1
	}
	return true
}

func isBelow(n, end int) bool {
	return n >= 0 && n < end
}
