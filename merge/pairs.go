package merge

import (
	"iter"

	"colander/api"
	"colander/run"
)

func rows(older, newer api.Tier) [][]api.Pair {
	return [][]api.Pair{older.Adds, older.Drops, newer.Adds, newer.Drops}
}

// pairsOf is how many pairs both have, each counted once.
func pairsOf(older, newer api.Tier) int {
	n := 0
	for range inOrder(rows(older, newer)...) {
		n++
	}
	return n
}

// inOrder tells what one of the rows has, each pair once, and how many were ahead of it.
func inOrder(rows ...[]api.Pair) iter.Seq2[int, api.Pair] {
	return func(yield func(int, api.Pair) bool) {
		var all []api.Pair
		for _, row := range rows {
			all = merged(all, row, run.Compare)
		}
		for at, p := range all {
			if !yield(at, p) {
				return
			}
		}
	}
}

// merged is two rows as one; what both have comes once.
func merged[T any](a, b []T, compare func(T, T) int) []T {
	out := make([]T, 0, len(a)+len(b))
heads:
	for {
		switch {
		case len(a) == 0:
			out = append(out, b...)
			break heads
		case len(b) == 0:
			out = append(out, a...)
			break heads
		}
		order := compare(a[0], b[0])
		if order <= 0 {
			out = append(out, a[0])
			a = a[1:]
		} else {
			out = append(out, b[0])
		}
		if order >= 0 {
			b = b[1:]
		}
	}
	return out
}

// saidBy asks what both say of a pair that one of them has: whether it is there. Pairs are asked for in order alone.
func saidBy(older, newer api.Tier) func(api.Pair) bool {
	adds, drops, did := along(newer.Adds), along(newer.Drops), along(older.Adds)
	return func(p api.Pair) bool {
		return adds(p) || !drops(p) && did(p)
	}
}

// along asks whether a pair stands in a row; it goes on from where the pair before stands.
func along(row []api.Pair) func(api.Pair) bool {
	at := 0
	return func(p api.Pair) bool {
		for at < len(row) && run.Compare(row[at], p) < 0 {
			at++
		}
		return at < len(row) && row[at] == p
	}
}
