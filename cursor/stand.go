package cursor

import (
	"colander/api"
	"colander/gallop"
)

// deepest is the depth of the leaves.
const deepest = 2

// stand is where a cursor stands, in a trie of its own. Each move makes another one of it: a move that can't be done leaves it as it is.
type stand struct {
	own   api.Trie
	keys  []uint64 // of its branches
	depth int
	left  [deepest][]uint64 // of the row of each depth, from where it stands on; none of those that aren't open
	steps int
}

// fault is what a move that can't be done panics with.
type fault api.Errno

// moved turns the panic of a fault into its error; any other panic is a fault of this package itself, and goes on.
func moved(s stand, m api.Move) (to stand, e api.Errno) {
	defer func() {
		caught := recover()
		if caught == nil {
			return
		}
		f, ok := caught.(fault)
		if !ok {
			panic(caught)
		}
		e = api.Errno(f)
	}()
	moves := [...]func(stand, uint64) stand{
		api.CuOpen: stand.open,
		api.CuUp:   stand.up,
		api.CuNext: stand.next,
		api.CuSeek: stand.seek,
	}
	if m.Kind < api.CuOpen || m.Kind >= len(moves) {
		panic(fault(api.ErrMove))
	}
	return moves[m.Kind](s, m.Key), api.OK
}

func (s stand) open(uint64) stand {
	switch s.depth {
	case 0:
		s.left[0] = s.keys
	case 1:
		s.left[1] = s.leaves()
	default:
		panic(fault(api.ErrArg))
	}
	s.depth++
	s.steps++
	return s
}

func (s stand) up(uint64) stand {
	if s.depth == 0 {
		panic(fault(api.ErrArg))
	}
	s.depth--
	s.left[s.depth] = nil
	return s
}

func (s stand) next(uint64) stand {
	s.mustHave()
	return s.on(1, 1)
}

func (s stand) seek(key uint64) stand {
	s.mustHave()
	// The rows of a trie that may be rise: there is no error.
	places, looks, _ := gallop.Seek(within(s.row(), key), 0, key)
	return s.on(places, looks)
}

// within is the part of a row where the first number can stand that is at least the key, as far as the row's first one tells: each further one is at least 1 more.
// All that gallop is handed it goes over, to see whether it rises: with the whole row, many short seeks in a long one would take too long.
// Of a key below the first number the difference wraps round, and the row may stay whole.
func within(row []uint64, key uint64) []uint64 {
	far := key - row[0]
	if far >= uint64(len(row)) {
		return row
	}
	return row[: far+1 : far+1]
}

// on is so many places further on in its row.
func (s stand) on(places, steps int) stand {
	row := s.row()
	s.left[s.depth-1] = row[places:len(row):len(row)]
	s.steps += steps
	return s
}

// mustHave asks for a place of a row to stand at, ahead of a move from there.
func (s stand) mustHave() {
	if s.depth == 0 {
		panic(fault(api.ErrArg))
	}
	if len(s.row()) == 0 {
		panic(fault(api.ErrNone))
	}
}

// row is what is left of the row of its depth; the root has none.
func (s stand) row() []uint64 {
	if s.depth == 0 {
		return nil
	}
	return s.left[s.depth-1]
}

// leaves are those of the branch at whose Key it stands. They have no room behind their end, where those of the next branch are.
func (s stand) leaves() []uint64 {
	s.mustHave()
	b := s.own.Branches[len(s.keys)-len(s.row())]
	return s.own.Leaves[b.From:b.To:b.To]
}

func (s stand) path() []uint64 {
	var out []uint64
	for _, row := range s.left {
		if len(row) > 0 {
			out = append(out, row[0])
		}
	}
	return out
}

func copied[T any](l []T) []T {
	out := make([]T, len(l))
	copy(out, l)
	return out
}
