package trie

import (
	"cmp"

	"colander/api"
)

// look is a trie that is gone down in, and the row that stands under the path that was gone.
type look struct {
	api.Trie
	row []uint64
}

func top(t api.Trie) look {
	return look{Trie: t, row: gather(nil, t.Branches, keyOf)}
}

// down goes a level deeper by each number of the path; false, if there is no such path.
func down(t api.Trie, path []uint64) (look, bool) {
	levels := [...]func(look, uint64) (look, bool){look.branch, look.leaf}
	if len(path) > len(levels) || !mayBe(t) {
		return look{}, false
	}
	at := top(t)
	for depth, key := range path {
		next, ok := levels[depth](at, key)
		if !ok {
			return look{}, false
		}
		at = next
	}
	return at, true
}

func (k look) branch(key uint64) (look, bool) {
	at, ok := k.place(key)
	if !ok {
		return look{}, false
	}
	return look{Trie: k.Trie, row: leavesOf(k.Trie, k.Branches[at])}, true
}

func (k look) leaf(key uint64) (look, bool) {
	_, ok := k.place(key)
	return look{Trie: k.Trie}, ok
}

func (k look) place(key uint64) (int, bool) {
	return halved(len(k.row), func(at int) int { return cmp.Compare(k.row[at], key) })
}

// halved tells the first of so many places that is not ahead of what is sought, and whether that stands there.
func halved(many int, compare func(at int) int) (int, bool) {
	low, high, found := 0, many, false
halves:
	for low < high {
		middle := low + (high-low)/2
		switch compare(middle) {
		case -1:
			low = middle + 1
		case 1:
			high = middle
		default:
			// Numbers that rise stand once: none ahead of it is the same.
			low, found = middle, true
			break halves
		}
	}
	return low, found
}
