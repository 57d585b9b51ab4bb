package trie

import (
	"iter"

	"colander/api"
)

func mayBe(t api.Trie) bool {
	if len(t.Leaves) > api.MaxRun || !chained(t) {
		return false
	}
	for _, leaves := range branches(t) {
		if !rises(leaves) {
			return false
		}
	}
	return true
}

// chained tells whether the branches' Keys rise, and their parts of Leaves are all of it, one behind the other: ahead of that no part can be cut.
func chained(t api.Trie) bool {
	end := 0
	for i, b := range t.Branches {
		if i > 0 && b.Key <= t.Branches[i-1].Key {
			return false
		}
		if b.From != end || b.To <= b.From || b.To > len(t.Leaves) {
			return false
		}
		end = b.To
	}
	return end == len(t.Leaves)
}

func rises(l []uint64) bool {
	for i := 1; i < len(l); i++ {
		if l[i] <= l[i-1] {
			return false
		}
	}
	return true
}

// branches tells each Key with its leaves, of what is chained alone.
func branches(t api.Trie) iter.Seq2[uint64, []uint64] {
	return func(yield func(uint64, []uint64) bool) {
		for _, b := range t.Branches {
			if !yield(b.Key, leavesOf(t, b)) {
				return
			}
		}
	}
}

// leavesOf has no room behind its end: nothing that is put there could reach the next branch.
func leavesOf(t api.Trie, b api.Branch) []uint64 {
	return t.Leaves[b.From:b.To:b.To]
}

// gather puts behind a row what each of another one has of a kind.
func gather[T, V any](out []V, l []T, of func(T) V) []V {
	for _, x := range l {
		out = append(out, of(x))
	}
	return out
}

func keyOf(b api.Branch) uint64 {
	return b.Key
}

func secondOf(p api.Pair) uint64 {
	return p.B
}

// pairs is asked of tries that may be alone.
func pairs(t api.Trie) []api.Pair {
	out := make([]api.Pair, 0, len(t.Leaves))
	for key, leaves := range branches(t) {
		out = gather(out, leaves, func(n uint64) api.Pair { return api.Pair{A: key, B: n} })
	}
	return out
}

// laid is handed runs alone.
func laid(l []api.Pair) api.Trie {
	out := api.Trie{Leaves: gather(make([]uint64, 0, len(l)), l, secondOf)}
	for at, p := range l {
		last := len(out.Branches) - 1
		if last < 0 || out.Branches[last].Key != p.A {
			out.Branches = append(out.Branches, api.Branch{Key: p.A, From: at})
			last++
		}
		out.Branches[last].To = at + 1
	}
	return out
}

// part is the trie of the branches from a place up to another one; of tries that may be alone.
func part(t api.Trie, first, behind int) api.Trie {
	var out api.Trie
	if first == behind {
		return out
	}
	from, to := t.Branches[first].From, t.Branches[behind-1].To
	moved := func(b api.Branch) api.Branch {
		return api.Branch{Key: b.Key, From: b.From - from, To: b.To - from}
	}
	out.Branches = gather(out.Branches, t.Branches[first:behind:behind], moved)
	out.Leaves = append(out.Leaves, t.Leaves[from:to:to]...)
	return out
}
