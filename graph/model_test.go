package graph_test

import (
	"maps"
	"slices"
	"strconv"
	"testing"

	"colander/api"
	"colander/dict"
	"colander/graph"
	"colander/table"
)

// model is a graph by the chapter's words: names alone, of each kind in order of their arrival.
type model struct {
	names [5][]string
	nodes map[string]has
	edges map[edge]bool
}

type has struct {
	labels map[string]bool
	props  map[string]string
}

type edge struct{ name, from, to string }

func newModel() model {
	return model{nodes: map[string]has{}, edges: map[edge]bool{}}
}

func (m model) copied() model {
	out := model{nodes: map[string]has{}, edges: maps.Clone(m.edges)}
	for kind, l := range m.names {
		out.names[kind] = slices.Clone(l)
	}
	for key, n := range m.nodes {
		out.nodes[key] = has{maps.Clone(n.labels), maps.Clone(n.props)}
	}
	return out
}

// brings tells whether there is room for a name, and puts it, if it is none yet.
func (m *model) brings(kind int, name string) bool {
	if slices.Contains(m.names[kind], name) {
		return true
	}
	if len(m.names[kind]) == 128 {
		return false
	}
	m.names[kind] = append(m.names[kind], name)
	return true
}

// canBe is the chapter's table, row by row.
func (m model) canBe(c api.Change) bool {
	n, there := m.nodes[c.Key]
	_, toThere := m.nodes[c.To]
	_, set := n.props[c.Name]
	switch c.Kind {
	case 1:
		return !there
	case 2:
		return there
	case 3:
		return there && !n.labels[c.Name]
	case 4:
		return there && n.labels[c.Name]
	case 5:
		return there
	case 6:
		return there && set
	case 7:
		return there && toThere && !m.edges[edge{c.Name, c.Key, c.To}]
	}
	return there && toThere && m.edges[edge{c.Name, c.Key, c.To}]
}

// does is one change that may be; the model stays as it was.
func (m model) does(c api.Change) (model, api.Errno) {
	if !m.canBe(c) {
		return m, api.ErrBad
	}
	out := m.copied()
	room := true
	switch c.Kind {
	case 1:
		room = out.brings(0, c.Key)
		out.nodes[c.Key] = has{map[string]bool{}, map[string]string{}}
	case 2:
		delete(out.nodes, c.Key)
		maps.DeleteFunc(out.edges, func(x edge, _ bool) bool { return x.from == c.Key || x.to == c.Key })
	case 3:
		room = out.brings(1, c.Name)
		out.nodes[c.Key].labels[c.Name] = true
	case 4:
		delete(out.nodes[c.Key].labels, c.Name)
	case 5:
		room = out.brings(3, c.Name) && out.brings(4, c.Value)
		out.nodes[c.Key].props[c.Name] = c.Value
	case 6:
		delete(out.nodes[c.Key].props, c.Name)
	case 7:
		room = out.brings(2, c.Name)
		out.edges[edge{c.Name, c.Key, c.To}] = true
	case 8:
		delete(out.edges, edge{c.Name, c.Key, c.To})
	}
	if !room {
		return m, api.ErrFull
	}
	return out, api.OK
}

func (m model) all(l []api.Change) (model, int, api.Errno) {
	out := m
	for i, c := range l {
		var e api.Errno
		if out, e = out.does(c); e != api.OK {
			return m, i + 1, e
		}
	}
	return out, len(l), api.OK
}

func (m model) id(kind int, name string) int {
	return slices.Index(m.names[kind], name)
}

// graph is that graph: what has no id is not there, and all is gone through id by id.
func (m model) graph() api.Graph {
	g := api.Graph{}
	for kind, l := range m.names {
		g.Dict.Kinds[kind], _, _ = table.All(table.New(), l...)
	}
	for id, key := range m.names[0] {
		if n, there := m.nodes[key]; there {
			g.Nodes = append(g.Nodes, m.node(id, n))
		}
	}
	for ofType, name := range m.names[2] {
		for from, key := range m.names[0] {
			for to, other := range m.names[0] {
				if m.edges[edge{name, key, other}] {
					g.Edges = append(g.Edges, api.Edge{Type: ofType, From: from, To: to})
				}
			}
		}
	}
	return g
}

func (m model) node(id int, n has) api.Node {
	out := api.Node{Id: id}
	for label, name := range m.names[1] {
		if n.labels[name] {
			out.Labels = append(out.Labels, label)
		}
	}
	for prop, name := range m.names[3] {
		if value, set := n.props[name]; set {
			out.Props = append(out.Props, api.Prop{Name: prop, Value: m.id(4, value)})
		}
	}
	return out
}

// facts are those of a relation, by names; in order of their ids.
func (m model) facts(kind, name int) []api.Pair {
	var out []api.Pair
	add := func(a, b int) { out = append(out, api.Pair{A: uint64(a), B: uint64(b)}) }
	for key, n := range m.nodes {
		id := m.id(0, key)
		switch kind {
		case 0:
			add(id, id)
		case 1:
			if n.labels[m.names[1][name]] {
				add(id, id)
			}
		case 2:
			if value, set := n.props[m.names[3][name]]; set {
				add(m.id(4, value), id)
			}
		}
	}
	for x := range m.edges {
		if kind == 3 && m.names[2][name] == x.name {
			add(m.id(0, x.from), m.id(0, x.to))
		}
		if kind == 4 && m.names[2][name] == x.name {
			add(m.id(0, x.to), m.id(0, x.from))
		}
	}
	slices.SortFunc(out, comparePairs)
	return out
}

func comparePairs(a, b api.Pair) int {
	if a.A != b.A {
		return int(a.A) - int(b.A)
	}
	return int(a.B) - int(b.B)
}

func (m model) relations() []api.Relation {
	out := []api.Relation{{Kind: 0}}
	for kind, of := range []int{1: 1, 2: 3, 3: 2, 4: 2} {
		if kind > 0 {
			for id := range m.names[of] {
				out = append(out, api.Relation{Kind: kind, Name: id})
			}
		}
	}
	return out
}

// mayBe is the chapter's words of a graph.
func mayBe(g api.Graph) bool {
	if dict.Check(g.Dict) != api.OK {
		return false
	}
	is := func(kind, id int) bool { return id >= 0 && id < len(dict.Names(g.Dict, kind)) }
	nodes := map[int]bool{}
	for i, n := range g.Nodes {
		if !is(0, n.Id) || i > 0 && n.Id <= g.Nodes[i-1].Id {
			return false
		}
		nodes[n.Id] = true
		for i, id := range n.Labels {
			if !is(1, id) || i > 0 && id <= n.Labels[i-1] {
				return false
			}
		}
		for i, p := range n.Props {
			if !is(3, p.Name) || !is(4, p.Value) || i > 0 && p.Name <= n.Props[i-1].Name {
				return false
			}
		}
	}
	for i, x := range g.Edges {
		if !is(2, x.Type) || !nodes[x.From] || !nodes[x.To] || i > 0 && !inOrder(g.Edges[i-1], x) {
			return false
		}
	}
	return true
}

func inOrder(a, b api.Edge) bool {
	switch {
	case a.Type != b.Type:
		return a.Type < b.Type
	case a.From != b.From:
		return a.From < b.From
	}
	return a.To < b.To
}

// alike tells whether two graphs are the same, without the package's help.
func alike(a, b api.Graph) bool {
	for kind := range a.Dict.Kinds {
		if !slices.Equal(a.Dict.Kinds[kind].Texts, b.Dict.Kinds[kind].Texts) {
			return false
		}
	}
	return slices.Equal(a.Edges, b.Edges) && slices.EqualFunc(a.Nodes, b.Nodes, alikeNodes)
}

func alikeNodes(a, b api.Node) bool {
	return a.Id == b.Id && slices.Equal(a.Labels, b.Labels) && slices.Equal(a.Props, b.Props)
}

// nothing tells whether a graph is zero.
func nothing(g api.Graph) bool {
	for _, t := range g.Dict.Kinds {
		if t.Texts != nil || t.Slots != nil {
			return false
		}
	}
	return g.Nodes == nil && g.Edges == nil
}

// deep is a copy that shares nothing; the room behind lists' ends is not copied.
func deep(g api.Graph) api.Graph {
	out := api.Graph{Edges: slices.Clone(g.Edges)}
	for kind, t := range g.Dict.Kinds {
		out.Dict.Kinds[kind] = api.Table{Texts: slices.Clone(t.Texts), Slots: slices.Clone(t.Slots)}
	}
	for _, n := range g.Nodes {
		out.Nodes = append(out.Nodes, api.Node{Id: n.Id, Labels: slices.Clone(n.Labels), Props: slices.Clone(n.Props)})
	}
	return out
}

// spoil writes over all of a graph's memory, the room behind its lists' ends, too.
func spoil(g api.Graph) {
	for _, t := range g.Dict.Kinds {
		fill(t.Texts, "spoilt")
		fill(t.Slots, -7)
	}
	for _, n := range g.Nodes {
		fill(n.Labels, -7)
		fill(n.Props, api.Prop{Name: -7, Value: -7})
	}
	fill(g.Nodes, api.Node{Id: -7})
	fill(g.Edges, api.Edge{Type: -7, From: -7, To: -7})
}

func fill[T any](l []T, with T) {
	l = l[:cap(l)]
	for i := range l {
		l[i] = with
	}
}

// checkDo holds Do against the model, and answers what both come to.
func checkDo(t *testing.T, m model, g api.Graph, l ...api.Change) (model, api.Graph) {
	t.Helper()
	next, wantN, wantE := m.all(l)
	out, n, e := graph.Do(g, l...)
	if n != wantN || e != wantE {
		t.Fatalf("Do(%v): %d, %d, want %d, %d", l, n, e, wantN, wantE)
	}
	if e != api.OK {
		if !nothing(out) {
			t.Fatalf("Do(%v): %d, and %v", l, e, out)
		}
		return m, g
	}
	if want := next.graph(); !alike(out, want) || !mayBe(out) || graph.Check(out) != api.OK {
		t.Fatalf("Do(%v): %v, want %v", l, out, want)
	}
	return next, out
}

func checkFacts(t *testing.T, m model, g api.Graph) {
	t.Helper()
	l := graph.Relations(g)
	if !slices.Equal(l, m.relations()) {
		t.Fatalf("Relations: %v, want %v", l, m.relations())
	}
	for _, r := range l {
		if got, e := graph.Facts(g, r); !slices.Equal(got, m.facts(r.Kind, r.Name)) || e != api.OK {
			t.Fatalf("Facts(%v): %v, %d, want %v", r, got, e, m.facts(r.Kind, r.Name))
		}
	}
}

func checkAt(t *testing.T, m model, g api.Graph, keys ...string) {
	t.Helper()
	for _, key := range keys {
		x, ok := graph.At(g, key)
		want, there := api.Node{}, false
		if n, is := m.nodes[key]; is {
			want, there = m.node(m.id(0, key), n), true
		}
		if !alikeNodes(x, want) || ok != there {
			t.Fatalf("At(%q): %v, %t, want %v, %t", key, x, ok, want, there)
		}
	}
}

func add(key string) api.Change  { return api.Change{Kind: api.ChAdd, Key: key} }
func drop(key string) api.Change { return api.Change{Kind: api.ChDrop, Key: key} }
func label(key, name string) api.Change {
	return api.Change{Kind: api.ChLabel, Key: key, Name: name}
}
func unlabel(key, name string) api.Change {
	return api.Change{Kind: api.ChUnlabel, Key: key, Name: name}
}
func set(key, name, value string) api.Change {
	return api.Change{Kind: api.ChSet, Key: key, Name: name, Value: value}
}
func unset(key, name string) api.Change {
	return api.Change{Kind: api.ChUnset, Key: key, Name: name}
}
func link(key, name, to string) api.Change {
	return api.Change{Kind: api.ChLink, Key: key, Name: name, To: to}
}
func unlink(key, name, to string) api.Change {
	return api.Change{Kind: api.ChUnlink, Key: key, Name: name, To: to}
}

// example is the chapter's graph.
func example() []api.Change {
	return []api.Change{add("ann"), add("bob"), label("ann", "p"), set("ann", "age", "7"), link("ann", "knows", "bob"), link("bob", "knows", "bob")}
}

// did is what changes come to that can be done.
func did(t *testing.T, l ...api.Change) (model, api.Graph) {
	t.Helper()
	m, g := newModel(), graph.New()
	for part := range slices.Chunk(l, 64) {
		if _, _, e := graph.Do(g, part...); e != api.OK {
			t.Fatalf("Do(%v): %d", part, e)
		}
		m, g = checkDo(t, m, g, part...)
	}
	return m, g
}

// named is so many names, no two alike.
func named(many int) []string {
	out := make([]string, many)
	for i := range out {
		out[i] = "n" + strconv.Itoa(i)
	}
	return out
}
