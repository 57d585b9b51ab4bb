package graph_test

import (
	"slices"
	"testing"

	"colander/api"
	"colander/dict"
	"colander/graph"
)

// few are changes of two keys, and of two names at most.
func few() []api.Change {
	return []api.Change{
		add("a"), add("b"), drop("a"), drop("b"), label("a", "p"), label("b", "p"), unlabel("a", "p"), set("a", "u", "1"), set("a", "u", "2"), set("b", "v", "1"),
		unset("a", "u"), link("a", "s", "b"), link("b", "s", "a"), link("a", "s", "a"), link("a", "t", "b"), unlink("a", "s", "b"), unlink("a", "s", "a"),
	}
}

// P10.4, P10.5: all rows of at most four of these, one by one, and at once.
func TestAllShortRows(t *testing.T) {
	type at struct {
		m    model
		g    api.Graph
		done []api.Change
	}
	rows := []at{{newModel(), graph.New(), nil}}
	for i := 0; i < len(rows); i++ {
		from := rows[i]
		if len(from.done) == 4 {
			continue
		}
		for _, c := range few() {
			if !from.m.canBe(c) {
				checkDo(t, from.m, from.g, c)
				checkDo(t, newModel(), graph.New(), append(slices.Clone(from.done), c)...)
				continue
			}
			m, g := checkDo(t, from.m, from.g, c)
			done := append(slices.Clone(from.done), c)
			if whole, n, e := graph.Do(graph.New(), done...); !alike(whole, g) || n != len(done) || e != api.OK {
				t.Fatalf("Do(%v): %v, %d, %d, want %v", done, whole, n, e, g)
			}
			rows = append(rows, at{m, g, done})
		}
	}
	if len(rows) < 300 {
		t.Errorf("%d rows of changes that can be done", len(rows))
	}
}

// next is a row of numbers that look like chance, and are the same each time.
func next(x *uint64) int {
	*x ^= *x << 13
	*x ^= *x >> 7
	*x ^= *x << 17
	return int(*x >> 33)
}

// anyChange is a change that may be, of few names, so that many can be done.
func anyChange(x *uint64, keys, names []string) api.Change {
	return changeOf(next(x), keys[next(x)%len(keys)], names[next(x)%len(names)], keys[next(x)%len(keys)])
}

// changeOf is of a kind that a number says; more often than others it adds and links.
func changeOf(n int, key, name, other string) api.Change {
	switch n % 10 {
	case 0, 1:
		return add(key)
	case 2:
		return drop(key)
	case 3:
		return label(key, name)
	case 4:
		return unlabel(key, name)
	case 5:
		return set(key, name, other)
	case 6:
		return unset(key, name)
	case 7, 8:
		return link(key, name, other)
	}
	return unlink(key, name, other)
}

// P10.2 to P10.5: long rows of changes, against the model.
func TestLongRows(t *testing.T) {
	keys, names := named(12), named(5)
	for seed := range uint64(8) {
		x := seed*7919 + 1
		m, g := newModel(), graph.New()
		for range 1000 {
			m, g = checkDo(t, m, g, anyChange(&x, keys, names))
		}
		checkFacts(t, m, g)
		checkAt(t, m, g, append(keys, "nobody", "")...)
		for range 50 {
			var l []api.Change
			for range 1 + next(&x)%5 {
				l = append(l, anyChange(&x, keys, names))
			}
			m, g = checkDo(t, m, g, l...)
			checkFacts(t, m, g)
		}
	}
}

// P10.5: a batch, done in two, one behind the other, comes to the same.
func TestInTwo(t *testing.T) {
	x := uint64(99)
	keys, names := named(5), named(3)
	for range 20 {
		m, l := newModel(), []api.Change(nil)
		for len(l) < 64 {
			c := anyChange(&x, keys, names)
			if m.canBe(c) {
				m, _ = m.does(c)
				l = append(l, c)
			}
		}
		whole, n, e := graph.Do(graph.New(), l...)
		if n != 64 || e != api.OK || !alike(whole, m.graph()) {
			t.Fatalf("Do(%v): %d, %d", l, n, e)
		}
		for at := range 65 {
			a, _, e1 := graph.Do(graph.New(), l[:at]...)
			b, _, e2 := graph.Do(a, l[at:]...)
			if e1 != api.OK || e2 != api.OK || !alike(b, whole) || !graph.Same(b, whole) {
				t.Fatalf("in two, at %d: %d, %d", at, e1, e2)
			}
		}
	}
}

// P10.5: a batch is all or nothing, wherever it breaks off.
func TestAllOrNothing(t *testing.T) {
	_, g := did(t, example()...)
	was := deep(g)
	good := []api.Change{add("cy"), link("cy", "likes", "ann"), drop("bob"), set("ann", "age", "8"), unlabel("ann", "p"), label("ann", "q"), unset("ann", "age"), unlink("cy", "likes", "ann")}
	for at := range len(good) + 1 {
		l := slices.Insert(slices.Clone(good), at, drop("nobody"))
		if out, n, e := graph.Do(g, l...); !nothing(out) || n != at+1 || e != api.ErrBad {
			t.Errorf("Do(%v): %d, %d", l, n, e)
		}
		if !alike(g, was) {
			t.Fatalf("Do(%v) left %v", l, g)
		}
	}
}

// P10.5: what was added, and dropped, leaves its name alone.
func TestAddedAndDropped(t *testing.T) {
	_, g := did(t, example()...)
	out, _, e := graph.Do(g, add("cy"), link("cy", "knows", "ann"), link("ann", "knows", "cy"), link("cy", "knows", "cy"), label("cy", "p"), set("cy", "age", "7"), drop("cy"))
	want := deep(g)
	want.Dict, _, _ = dict.Put(want.Dict, api.DiNode, "cy")
	if e != api.OK || !alike(out, want) {
		t.Errorf("cy, added and dropped: %v, %d, want %v", out, e, want)
	}
}

// P10.5: the facts back are those forth, turned; names keep their ids.
func TestTurnedAndKept(t *testing.T) {
	x := uint64(5)
	keys, names := named(9), named(4)
	_, g := did(t)
	for range 600 {
		was := g
		if out, _, e := graph.Do(g, anyChange(&x, keys, names)); e == api.OK {
			g = out
		}
		for kind := range g.Dict.Kinds {
			old, now := was.Dict.Kinds[kind].Texts, g.Dict.Kinds[kind].Texts
			if len(now) < len(old) || !slices.Equal(now[:len(old)], old) {
				t.Fatalf("names %v became %v", old, now)
			}
		}
		for name := range g.Dict.Kinds[api.DiType].Texts {
			forth, e1 := graph.Facts(g, api.Relation{Kind: api.ReForth, Name: name})
			back, e2 := graph.Facts(g, api.Relation{Kind: api.ReBack, Name: name})
			if !slices.IsSortedFunc(forth, comparePairs) || !slices.IsSortedFunc(back, comparePairs) {
				t.Fatalf("out of order: forth %v, back %v", forth, back)
			}
			for i, p := range back {
				back[i] = api.Pair{A: p.B, B: p.A}
			}
			slices.SortFunc(back, comparePairs)
			if e1 != api.OK || e2 != api.OK || !slices.Equal(forth, back) {
				t.Fatalf("forth %v, back, turned, %v", forth, back)
			}
		}
	}
}

// roomy is the same graph; behind each list's end there is room that others may have written to.
func roomy(g api.Graph) api.Graph {
	out := deep(g)
	for kind, t := range out.Dict.Kinds {
		out.Dict.Kinds[kind] = api.Table{Texts: room(t.Texts, "behind"), Slots: room(t.Slots, -3)}
	}
	for i, n := range out.Nodes {
		out.Nodes[i] = api.Node{Id: n.Id, Labels: room(n.Labels, -3), Props: room(n.Props, api.Prop{Name: -3, Value: -3})}
	}
	out.Nodes = room(out.Nodes, api.Node{Id: -3})
	out.Edges = room(out.Edges, api.Edge{Type: -3, From: -3, To: -3})
	return out
}

func room[T any](l []T, with T) []T {
	out := make([]T, len(l)+8)
	copy(out, l)
	for i := len(l); i < len(out); i++ {
		out[i] = with
	}
	return out[:len(l)]
}

// whole tells whether nothing was written behind the ends of what roomy made.
func whole(g api.Graph) bool {
	for _, t := range g.Dict.Kinds {
		if !kept(t.Texts, "behind") || !kept(t.Slots, -3) {
			return false
		}
	}
	for _, n := range g.Nodes {
		if !kept(n.Labels, -3) || !kept(n.Props, api.Prop{Name: -3, Value: -3}) {
			return false
		}
	}
	for _, n := range g.Nodes[len(g.Nodes):cap(g.Nodes)] {
		if n.Id != -3 {
			return false
		}
	}
	return kept(g.Edges, api.Edge{Type: -3, From: -3, To: -3})
}

func kept[T comparable](l []T, with T) bool {
	for _, x := range l[len(l):cap(l)] {
		if x != with {
			return false
		}
	}
	return true
}

// R3: what is handed in stays as it is, the room behind its end, too.
func TestStays(t *testing.T) {
	for s, was := range graphs() {
		g := roomy(was)
		stays := func(of string) {
			t.Helper()
			if !alike(g, was) || !whole(g) {
				t.Fatalf("%s: %s changed what was handed in", s, of)
			}
		}
		graph.Check(g)
		graph.Same(g, g)
		graph.At(g, "a")
		for _, r := range graph.Relations(g) {
			graph.Facts(g, r)
		}
		stays("a call that tells")
		for _, c := range append(few(), add("c"), add("e"), drop("d"), label("a", "z"), set("a", "u", "z"), set("b", "u", "z"), link("a", "z", "b"), unlink("d", "t", "d"), unset("a", "v"), unlabel("d", "q")) {
			room := []api.Change{c, add("behind")}
			graph.Do(g, room[:1]...)
			if room[0] != c || room[1] != add("behind") {
				t.Fatalf("the changes became %v", room)
			}
			stays("Do")
		}
		graph.Do(g)
		stays("Do of none")
	}
}

// R3: what is answered is new memory.
func TestNewMemory(t *testing.T) {
	for s, was := range graphs() {
		for _, l := range [][]api.Change{nil, {add("e")}, {drop("a")}, {set("a", "u", "X y")}, {label("a", "q")}, {unlink("a", "s", "b")}, {link("d", "s", "d")}} {
			g := deep(was)
			out, _, e := graph.Do(g, l...)
			want := deep(out)
			spoil(g)
			if !alike(out, want) || e == api.OK && graph.Check(out) != api.OK {
				t.Errorf("%s: Do(%v) shares memory with what was handed in", s, l)
			}
			g = deep(was)
			out, _, _ = graph.Do(g, l...)
			spoil(out)
			if !alike(g, was) || graph.Check(g) != api.OK {
				t.Errorf("%s: what Do(%v) answers shares memory with what was handed in", s, l)
			}
		}
		g := deep(was)
		for _, key := range []string{"a", "b", "d"} {
			x, _ := graph.At(g, key)
			fill(x.Labels, -7)
			fill(x.Props, api.Prop{Name: -7})
			for _, r := range graph.Relations(g) {
				l, _ := graph.Facts(g, r)
				fill(l, api.Pair{A: 77, B: 77})
			}
			fill(graph.Relations(g), api.Relation{Kind: -7})
		}
		if !alike(g, was) {
			t.Errorf("%s: what is told shares memory with what was handed in", s)
		}
	}
}

// R3: no two lists of one answer share memory.
func TestListsApart(t *testing.T) {
	_, g := did(t, example()...)
	out, _, _ := graph.Do(g, label("ann", "q"), label("bob", "q"), label("bob", "p"), set("bob", "age", "8"))
	want := deep(out)
	for i := range out.Nodes {
		n := out.Nodes[i]
		fill(n.Labels[len(n.Labels):], -7)
		fill(n.Props[len(n.Props):], api.Prop{Name: -7})
	}
	if !alike(out, want) {
		t.Errorf("the room behind lists is others' memory: %v, want %v", out, want)
	}
}

// P10.1 to P10.5: whatever is done, and whatever a graph is like.
func FuzzDo(f *testing.F) {
	f.Add([]byte{1, 0, 0, 0, 1, 1, 0, 0, 7, 0, 0, 1, 3, 0, 0, 0, 5, 0, 0, 1, 2, 1, 0, 0, 9, 0, 0, 0}, 0, 0)
	f.Add([]byte{1, 0, 0, 0, 1, 0, 0, 0}, 3, -1)
	f.Add([]byte{}, 5, 1)
	f.Fuzz(func(t *testing.T, b []byte, where, by int) {
		keys, names := named(4), named(3)
		m, g := newModel(), graph.New()
		for part := range slices.Chunk(b, 12) {
			var l []api.Change
			for c := range slices.Chunk(part, 4) {
				if len(c) == 4 {
					l = append(l, changeOf(int(c[0]), keys[int(c[1])%4], names[int(c[2])%3], keys[int(c[3])%4]))
				}
			}
			m, g = checkDo(t, m, g, l...)
		}
		checkFacts(t, m, g)
		checkAt(t, m, g, keys...)
		damage(g, where, by)
		want := api.OK
		if !mayBe(g) {
			want = api.ErrGraph
		}
		if e := graph.Check(g); e != want {
			t.Fatalf("Check(%v): %d, want %d", g, e, want)
		}
	})
}

// damage adds to one of a graph's numbers.
func damage(g api.Graph, where, by int) {
	var l []*int
	for i := range g.Nodes {
		n := &g.Nodes[i]
		l = append(l, &n.Id)
		for k := range n.Labels {
			l = append(l, &n.Labels[k])
		}
		for k := range n.Props {
			l = append(l, &n.Props[k].Name, &n.Props[k].Value)
		}
	}
	for i := range g.Edges {
		l = append(l, &g.Edges[i].Type, &g.Edges[i].From, &g.Edges[i].To)
	}
	if len(l) > 0 {
		*l[int(uint(where)%uint(len(l)))] += by
	}
}
