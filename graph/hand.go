package graph

import (
	"slices"

	"colander/api"
	"colander/dict"
)

// hand does changes that may be to a graph of its own, one behind the other. One that can't be done leaves by a panic, and what it has begun as it is: nobody asks for that graph any more.
type hand struct {
	api.Graph
}

// bad is what a change panics with that can't be done, full one that would bring a name for which there is no room.
type (
	bad  struct{}
	full struct{}
)

// tried turns such a panic into its error; any other one is a fault of this package itself, and goes on.
func tried(do func(api.Change), c api.Change) (e api.Errno) {
	defer func() {
		switch caught := recover().(type) {
		case nil:
		case bad:
			e = api.ErrBad
		case full:
			e = api.ErrFull
		default:
			panic(caught)
		}
	}()
	do(c)
	return api.OK
}

func (h *hand) does() map[int]func(api.Change) {
	return map[int]func(api.Change){
		api.ChAdd:     h.add,
		api.ChDrop:    h.drop,
		api.ChLabel:   h.label,
		api.ChUnlabel: h.unlabel,
		api.ChSet:     h.set,
		api.ChUnset:   h.unset,
		api.ChLink:    h.link,
		api.ChUnlink:  h.unlink,
	}
}

func (h *hand) add(c api.Change) {
	id := h.put(api.DiNode, c.Key)
	at, there := nodeAt(h.Nodes, id)
	must(!there)
	h.Nodes = slices.Insert(h.Nodes, at, api.Node{Id: id})
}

func (h *hand) drop(c api.Change) {
	at := h.place(c.Key)
	id := h.Nodes[at].Id
	h.Nodes = slices.Delete(h.Nodes, at, at+1)
	h.Edges = slices.DeleteFunc(h.Edges, func(x api.Edge) bool { return x.From == id || x.To == id })
}

func (h *hand) label(c api.Change) {
	n := h.node(c.Key)
	id := h.put(api.DiLabel, c.Name)
	at, has := labelAt(n.Labels, id)
	must(!has)
	n.Labels = slices.Insert(n.Labels, at, id)
}

func (h *hand) unlabel(c api.Change) {
	n := h.node(c.Key)
	at, has := labelAt(n.Labels, h.known(api.DiLabel, c.Name))
	must(has)
	n.Labels = slices.Delete(n.Labels, at, at+1)
}

func (h *hand) set(c api.Change) {
	n := h.node(c.Key)
	name := h.put(api.DiProp, c.Name)
	p := api.Prop{Name: name, Value: h.put(api.DiValue, c.Value)}
	at, has := propAt(n.Props, name)
	if has {
		n.Props[at] = p
		return
	}
	n.Props = slices.Insert(n.Props, at, p)
}

func (h *hand) unset(c api.Change) {
	n := h.node(c.Key)
	at, has := propAt(n.Props, h.known(api.DiProp, c.Name))
	must(has)
	n.Props = slices.Delete(n.Props, at, at+1)
}

func (h *hand) link(c api.Change) {
	// Both nodes are asked for ahead of the type: a change that can't be done is told ahead of a name that has no room.
	x := api.Edge{From: h.node(c.Key).Id, To: h.node(c.To).Id}
	x.Type = h.put(api.DiType, c.Name)
	at, there := edgeAt(h.Edges, x)
	must(!there)
	h.Edges = slices.Insert(h.Edges, at, x)
}

func (h *hand) unlink(c api.Change) {
	x := api.Edge{From: h.node(c.Key).Id, To: h.node(c.To).Id}
	x.Type = h.known(api.DiType, c.Name)
	at, there := edgeAt(h.Edges, x)
	must(there)
	h.Edges = slices.Delete(h.Edges, at, at+1)
}

// must is asked of what has to hold, for a change to be done.
func must(holds bool) {
	if !holds {
		panic(bad{})
	}
}

// place is where the node of a key stands that has to be there.
func (h *hand) place(key string) int {
	at, there := nodeOf(h.Graph, key)
	must(there)
	return at
}

func (h *hand) node(key string) *api.Node {
	return &h.Nodes[h.place(key)]
}

// known is the id of a name that the dictionary has to have: what a node or an edge has, has a name.
func (h *hand) known(kind int, name string) int {
	id, has := dict.Id(h.Dict, kind, name)
	must(has)
	return id
}

// put is the id of a name, which the dictionary has from then on.
func (h *hand) put(kind int, name string) int {
	d, id, e := dict.Put(h.Dict, kind, name)
	if e != api.OK {
		// What batch lets through is a name of its kind: all that it can lack is room.
		panic(full{})
	}
	h.Dict = d
	return id
}
