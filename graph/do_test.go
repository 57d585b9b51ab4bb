package graph_test

import (
	"strings"
	"testing"

	"colander/api"
	"colander/batch"
	"colander/graph"
)

// P10.4: the chapter's examples.
func TestDoExample(t *testing.T) {
	m, g := did(t, example()...)
	dropped, without := checkDo(t, m, g, drop("bob"))
	if len(without.Edges) != 0 || len(without.Nodes) != 1 {
		t.Errorf("bob dropped: %v", without)
	}
	dropped, again := checkDo(t, dropped, without, add("bob"))
	if x, ok := graph.At(again, "bob"); !ok || !alikeNodes(x, api.Node{Id: 1}) {
		t.Errorf("bob again: %v, %t", x, ok)
	}
	checkFacts(t, dropped, again)
	if out, n, e := graph.Do(again, label("ann", "p")); n != 1 || e != api.ErrBad || !nothing(out) {
		t.Errorf("label ann p, again: %v, %d, %d", out, n, e)
	}
}

// P10.4: batch's errors and numbers go ahead of all that changes come to.
func TestDoBatch(t *testing.T) {
	_, g := did(t, example()...)
	for _, bad := range []api.Change{{}, {Kind: 9, Key: "ann"}, {Kind: -1, Key: "ann"}, add("Ann"), add(""), set("ann", "age", "\""), label("ann", ""), {Kind: api.ChAdd, Key: "a", Name: "b"}, {Kind: api.ChDrop, Key: "ann", To: "ann"}} {
		for at := range 5 {
			l := []api.Change{drop("nobody"), add("ann"), link("ann", "knows", "bob"), add("cy"), add("dan")}
			l[at] = bad
			out, n, e := graph.Do(g, l...)
			if wantN, wantE := batch.Batch(l); !nothing(out) || n != wantN || e != wantE || n != at+1 || e != api.ErrChange {
				t.Errorf("Do(%v): %d, %d, want %d, %d", l, n, e, wantN, wantE)
			}
		}
	}
	for _, l := range [][]api.Change{make([]api.Change, 65), make([]api.Change, 1<<16), adds(65)} {
		if out, n, e := graph.Do(g, l...); !nothing(out) || n != 0 || e != api.ErrLong {
			t.Errorf("Do of %d: %d, %d", len(l), n, e)
		}
	}
	if out, n, e := graph.Do(g, adds(64)...); len(out.Nodes) != 66 || n != 64 || e != api.OK {
		t.Errorf("Do of 64: %d nodes, %d, %d", len(out.Nodes), n, e)
	}
	if out, n, e := graph.Do(g); !alike(out, g) || n != 0 || e != api.OK {
		t.Errorf("Do of none: %v, %d, %d", out, n, e)
	}
}

func adds(many int) []api.Change {
	var out []api.Change
	for _, key := range named(many) {
		out = append(out, add(key))
	}
	return out
}

// P10.4: each kind of change, where it can be done and where it can't.
func TestDoKinds(t *testing.T) {
	m, g := did(t, append(example(), add("gone"), link("gone", "knows", "ann"), label("gone", "q"), drop("gone"), label("bob", "q"), unlabel("bob", "q"), set("bob", "old", "x"), unset("bob", "old"), link("ann", "had", "bob"), unlink("ann", "had", "bob"))...)
	can := []api.Change{
		add("cy"), add("gone"), add("p"), add("knows"), drop("ann"), drop("bob"),
		label("bob", "p"), label("ann", "q"), label("ann", "new"), label("ann", "ann"), unlabel("ann", "p"),
		set("ann", "age", "8"), set("ann", "age", "7"), set("ann", "age", ""), set("bob", "age", "7"), set("ann", "new", "new"), set("ann", "old", "x"), unset("ann", "age"),
		link("ann", "knows", "ann"), link("bob", "knows", "ann"), link("ann", "new", "bob"), link("ann", "had", "bob"), link("bob", "had", "bob"), unlink("ann", "knows", "bob"), unlink("bob", "knows", "bob"),
	}
	cannot := []api.Change{
		add("ann"), add("bob"), drop("gone"), drop("nobody"), drop("p"), drop("knows"),
		label("ann", "p"), label("gone", "q"), label("gone", "p"), label("nobody", "new"),
		unlabel("ann", "q"), unlabel("bob", "p"), unlabel("bob", "q"), unlabel("ann", "new"), unlabel("gone", "q"), unlabel("nobody", "p"), unlabel("ann", "age"),
		set("gone", "age", "7"), set("nobody", "age", "7"), set("nobody", "new", "new"),
		unset("bob", "age"), unset("ann", "old"), unset("bob", "old"), unset("ann", "new"), unset("ann", "p"), unset("gone", "age"), unset("nobody", "age"),
		link("ann", "knows", "bob"), link("bob", "knows", "bob"), link("gone", "knows", "ann"), link("ann", "knows", "gone"), link("nobody", "knows", "ann"), link("ann", "new", "nobody"), link("gone", "new", "gone"),
		unlink("bob", "knows", "ann"), unlink("ann", "knows", "ann"), unlink("ann", "had", "bob"), unlink("ann", "new", "bob"), unlink("gone", "knows", "ann"), unlink("ann", "knows", "nobody"), unlink("nobody", "knows", "bob"), unlink("ann", "p", "bob"),
	}
	for _, c := range can {
		if _, n, e := graph.Do(g, c); n != 1 || e != api.OK {
			t.Errorf("Do(%v): %d, %d", c, n, e)
		}
		out, next := checkDo(t, m, g, c)
		checkFacts(t, out, next)
		checkAt(t, out, next, "ann", "bob", "cy", "gone", "p", "knows", "nobody")
	}
	for _, c := range cannot {
		if out, n, e := graph.Do(g, c); !nothing(out) || n != 1 || e != api.ErrBad {
			t.Errorf("Do(%v): %v, %d, %d", c, out, n, e)
		}
		checkDo(t, m, g, c)
	}
	for _, good := range can {
		for _, bad := range cannot {
			checkDo(t, m, g, good, bad)
			checkDo(t, m, g, bad, good)
		}
		for _, other := range can {
			checkDo(t, m, g, good, other)
		}
	}
}

// P10.4: each change sees those ahead.
func TestDoSees(t *testing.T) {
	m, g := newModel(), graph.New()
	for _, l := range [][]api.Change{
		{add("a"), add("a")}, {add("a"), drop("a")}, {add("a"), drop("a"), add("a")}, {add("a"), drop("a"), drop("a")}, {add("a"), drop("a"), label("a", "p")},
		{label("a", "p"), add("a")}, {add("a"), label("a", "p"), unlabel("a", "p"), label("a", "p")}, {add("a"), label("a", "p"), label("a", "p")},
		{add("a"), set("a", "u", "1"), set("a", "u", "2"), set("a", "u", "1"), unset("a", "u")}, {add("a"), set("a", "u", "1"), unset("a", "u"), unset("a", "u")},
		{add("a"), add("b"), link("a", "s", "b"), unlink("a", "s", "b"), link("a", "s", "b"), link("a", "s", "b")}, {add("a"), link("a", "s", "b"), add("b")},
		{add("a"), add("b"), link("a", "s", "b"), drop("b"), add("b"), link("a", "s", "b")}, {add("a"), add("b"), link("a", "s", "b"), drop("a"), unlink("a", "s", "b")},
		{add("a"), label("a", "p"), set("a", "u", "1"), link("a", "s", "a"), drop("a"), add("a"), label("a", "p"), set("a", "u", "1"), link("a", "s", "a")},
	} {
		checkDo(t, m, g, l...)
	}
}

// P10.4: names come one behind the other, of a set the property's, then the value's; each kind by itself.
func TestDoNames(t *testing.T) {
	_, g := did(t, add("b"), set("b", "b", "b"), add("a"), label("a", "b"), label("b", "a"), link("a", "b", "a"), link("b", "a", "b"), set("a", "a", "a"), set("a", "a", "b"), set("a", "a", ""))
	for kind, want := range []string{"b a", "b a", "b a", "b a", "b a "} {
		if got := strings.Join(g.Dict.Kinds[kind].Texts, " "); got != want {
			t.Errorf("kind %d: %q, want %q", kind, got, want)
		}
	}
}

// full is a graph of two nodes, a and b, that has room for no more names of that kind.
func full(t *testing.T, kind int) (model, api.Graph) {
	t.Helper()
	l := []api.Change{add("a"), add("b")}
	for i, name := range named(128) {
		switch kind {
		case api.DiNode:
			if i < 126 {
				l = append(l, add(name))
			}
		case api.DiLabel:
			l = append(l, label("a", name))
		case api.DiType:
			l = append(l, link("a", name, "b"))
		case api.DiProp:
			l = append(l, set("a", name, "x"))
		case api.DiValue:
			l = append(l, set("a", "u", name))
		}
	}
	return did(t, l...)
}

// P10.4: a name for which there is no room.
func TestDoFull(t *testing.T) {
	for kind, c := range []api.Change{add("new"), label("a", "new"), link("a", "new", "b"), set("a", "new", "x"), set("a", "u", "new")} {
		m, g := full(t, kind)
		if many := len(g.Dict.Kinds[kind].Texts); many != 128 {
			t.Fatalf("kind %d: %d names", kind, many)
		}
		for _, l := range [][]api.Change{{c}, {set("b", "w", "n1"), c}, {c, c}, {c, drop("nobody")}} {
			out, n, e := graph.Do(g, l...)
			_, wantN, wantE := m.all(l)
			if !nothing(out) || n != wantN || e != wantE || e != api.ErrFull && kind != api.DiProp {
				t.Errorf("kind %d: Do(%v): %d, %d, want %d, %d", kind, l, n, e, wantN, wantE)
			}
		}
		// That a change can't be done goes ahead, in one change; of two, the first one.
		for _, l := range [][]api.Change{
			{label("nobody", "new")}, {set("nobody", "new", "new")}, {link("nobody", "new", "a")}, {link("a", "new", "nobody")},
			{unlabel("a", "new")}, {unset("a", "new")}, {unlink("a", "new", "b")}, {drop("new")}, {drop("nobody"), c},
		} {
			if out, n, e := graph.Do(g, l...); !nothing(out) || n != 1 || e != api.ErrBad {
				t.Errorf("kind %d: Do(%v): %d, %d", kind, l, n, e)
			}
		}
		// A name that is there needs no room.
		for _, l := range [][]api.Change{{drop("b"), add("b")}, {label("b", "n1")}, {link("b", "n1", "a")}, {set("b", "n1", "x")}, {set("b", "u", "n1")}, {link("a", "n1", "b")}, {unlink("a", "n1", "b")}} {
			checkDo(t, m, g, l...)
		}
	}
}

// P10.4: of a set, the property has room, but the value has none, and the other way round; nothing is done.
func TestDoFullSet(t *testing.T) {
	for _, kind := range []int{api.DiProp, api.DiValue} {
		m, g := full(t, kind)
		was := deep(g)
		for _, l := range [][]api.Change{{set("b", "new", "new")}, {set("b", "new", "n3")}, {set("b", "n3", "new")}, {set("b", "n3", "n3")}} {
			checkDo(t, m, g, l...)
			if !alike(g, was) {
				t.Fatalf("Do(%v) changed what was handed in", l)
			}
		}
	}
}

// P10.4: the last names for which there is room.
func TestDoLast(t *testing.T) {
	m, g := did(t, adds(127)...)
	m, g = checkDo(t, m, g, add("last"))
	if x, ok := graph.At(g, "last"); !ok || x.Id != 127 {
		t.Errorf("the last one: %v, %t", x, ok)
	}
	m, g = checkDo(t, m, g, drop("last"), add("last"), drop("n5"), link("last", "s", "n3"), link("n3", "s", "last"), add("n5"))
	checkDo(t, m, g, add("more"))
	checkFacts(t, m, g)
}
