package run

import (
	"slices"

	"colander/api"
)

// pair is a pair that can be asked for its parts.
type pair api.Pair

func (p pair) first() uint64 {
	return p.A
}

func (p pair) second() uint64 {
	return p.B
}

func (p pair) turned() api.Pair {
	return api.Pair{A: p.B, B: p.A}
}

// gather makes a new row: what each pair has of a kind.
func gather[T any](l []api.Pair, of func(pair) T) []T {
	out := make([]T, 0, len(l))
	for _, p := range l {
		out = append(out, of(pair(p)))
	}
	return out
}

func copied(l []api.Pair) []api.Pair {
	out := make([]api.Pair, len(l))
	copy(out, l)
	return out
}

// ordered sorts in place: it is handed rows of this package alone.
func ordered(l []api.Pair) []api.Pair {
	slices.SortFunc(l, Compare)
	return l
}

// place tells where the first pair stands that is not ahead of p.
func place(l []api.Pair, p api.Pair) int {
	at, _ := slices.BinarySearchFunc(l, p, Compare)
	return at
}

// cut's part has no room behind it: nothing that is put there could reach what was handed in.
func cut(l []api.Pair, from, to int) []api.Pair {
	return l[from:to:to]
}
