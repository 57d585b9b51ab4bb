package cursor_test

import (
	"slices"
	"testing"

	"colander/api"
	"colander/cursor"
	"colander/trie"
)

// all goes through all that a cursor comes by, from the root, by Open, Next and Up alone.
func all(t *testing.T, c *cursor.Cursor) []api.Pair {
	t.Helper()
	var out []api.Pair
	for do(t, c.Open); c.Left() > 0; do(t, c.Next) {
		for do(t, c.Open); c.Left() > 0; do(t, c.Next) {
			p := c.Path()
			out = append(out, api.Pair{A: p[0], B: p[1]})
		}
		do(t, c.Up)
	}
	do(t, c.Up)
	return out
}

// P8.5: by all pairs of the run, in order; again, too; and a step for each that is opened, or gone next.
func TestAllFollows(t *testing.T) {
	big := []api.Trie{laid(row{1, rising(api.MaxRun, 0, 1)}), each(1<<18, 0, 5)}
	for _, x := range append(tries(), big...) {
		want := trie.Run(x)
		c := started(t, x)
		for times := 1; times <= 2; times++ {
			if l := all(t, c); !slices.Equal(l, want) {
				t.Fatalf("%d pairs, want %d", len(l), len(want))
			}
			if n := times * (1 + 2*len(x.Branches) + len(x.Leaves)); c.Steps() != n {
				t.Errorf("%d steps, want %d", c.Steps(), n)
			}
		}
	}
}

// P8.5: to seek comes to where next comes, as often as needed.
func TestSeekFollows(t *testing.T) {
	for _, x := range tries() {
		for _, key := range numbers(0, 1, 2, 3, 4, 5, 6, 9, 10, 16, 17, 40, 1<<40, 1<<63-1, 1<<63, 1<<63+1, most-2, most-1, most) {
			a, b := started(t, x), started(t, x)
			for do(t, a.Open, b.Open); a.Left() > 0; do(t, a.Next, b.Next) {
				do(t, a.Open, b.Open)
				sought(t, a, b, key)
				do(t, a.Up, b.Up)
			}
			do(t, a.Up, b.Up, a.Open, b.Open)
			sought(t, a, b, key)
		}
	}
}

// sought seeks by one of two cursors that stand at one place, if that is no end, and goes next by the other one.
func sought(t *testing.T, a, b *cursor.Cursor, key uint64) {
	t.Helper()
	if a.Left() == 0 {
		return
	}
	do(t, func() api.Errno { return a.Seek(key) })
	for n, is := b.Key(); is && n < key; n, is = b.Key() {
		do(t, b.Next)
	}
	checkPlace(t, "Seek", a, b.Depth(), b.Left(), b.Path()...)
}

// P8.5: up, and opened again, it stands at the first place; up, it stands where it stood.
func TestUpFollows(t *testing.T) {
	for _, x := range tries() {
		c := started(t, x)
		do(t, c.Open)
		for i, b := range x.Branches {
			leaves := x.Leaves[b.From:b.To]
			for on := range len(leaves) + 1 {
				do(t, c.Open)
				checkPlace(t, "Open", c, 2, len(leaves), b.Key, leaves[0])
				for range on {
					do(t, c.Next)
				}
				do(t, c.Up)
				checkPlace(t, "Up", c, 1, len(x.Branches)-i, b.Key)
			}
			do(t, c.Next)
		}
		do(t, c.Up, c.Open)
		if len(x.Branches) > 0 {
			checkPlace(t, "Up, and Open", c, 1, len(x.Branches), x.Branches[0].Key)
		}
	}
}

// model is a cursor by places, and by the chapter's words.
type model struct {
	trie  api.Trie
	depth int
	at    [2]int
}

func (m *model) row() []uint64 {
	var out []uint64
	switch m.depth {
	case 1:
		for _, b := range m.trie.Branches {
			out = append(out, b.Key)
		}
	case 2:
		b := m.trie.Branches[m.at[0]]
		out = m.trie.Leaves[b.From:b.To]
	}
	return out
}

func (m *model) left() []uint64 {
	if m.depth == 0 {
		return nil
	}
	return m.row()[m.at[m.depth-1]:]
}

func (m *model) path() []uint64 {
	if m.depth == 0 {
		return nil
	}
	var out []uint64
	if m.depth == 2 {
		out = append(out, m.trie.Branches[m.at[0]].Key)
	}
	if l := m.left(); len(l) > 0 {
		out = append(out, l[0])
	}
	return out
}

// error is what a move of the kind is told there.
func (m *model) error(kind int) api.Errno {
	end := m.depth > 0 && len(m.left()) == 0
	switch kind {
	case api.CuOpen:
		if m.depth == 2 {
			return api.ErrArg
		}
	case api.CuUp:
		if m.depth == 0 {
			return api.ErrArg
		}
		return api.OK
	case api.CuNext, api.CuSeek:
		if m.depth == 0 {
			return api.ErrArg
		}
	default:
		return api.ErrMove
	}
	if end {
		return api.ErrNone
	}
	return api.OK
}

// move makes a move that can be done, and tells the least and the most steps of it.
func (m *model) move(kind int, key uint64) (int, int) {
	switch kind {
	case api.CuOpen:
		m.at[m.depth] = 0
		m.depth++
	case api.CuUp:
		m.depth--
		return 0, 0
	case api.CuNext:
		m.at[m.depth-1]++
	case api.CuSeek:
		far := 0
		for l := m.left(); far < len(l) && l[far] < key; {
			far++
		}
		m.at[m.depth-1] += far
		return 1, 2 + 2*log(1+far)
	}
	return 1, 1
}

func checkMoves(t *testing.T, x api.Trie, moves []api.Move) {
	t.Helper()
	c := started(t, x)
	m := &model{trie: x}
	for i, move := range moves {
		least, greatest, was := 0, 0, c.Steps()
		want := m.error(move.Kind)
		if want == api.OK {
			least, greatest = m.move(move.Kind, move.Key)
		}
		if e := c.Move(move); e != want {
			t.Fatalf("%v, moves %v: %d, want %d", x, moves[:i+1], e, want)
		}
		if n := c.Steps() - was; n < least || n > greatest {
			t.Fatalf("%v, moves %v: %d steps, want %d to %d", x, moves[:i+1], n, least, greatest)
		}
		checkPlace(t, "moves", c, m.depth, len(m.left()), m.path()...)
	}
}

// P8.2 to P8.5: all rows of few moves.
func TestFewMoves(t *testing.T) {
	l := []api.Move{{Kind: api.CuOpen}, {Kind: api.CuUp}, {Kind: api.CuNext}, {Kind: api.CuSeek, Key: 2}, {Kind: api.CuSeek, Key: 5}, {Kind: 7}}
	for _, x := range []api.Trie{{}, laid(row{1, numbers(4)}), laid(row{1, numbers(1, 5)}, row{4, numbers(0)}, row{5, numbers(2, 3, 9)})} {
		moves := make([]api.Move, 6)
		var from func(at int)
		from = func(at int) {
			if at == len(moves) {
				checkMoves(t, x, moves)
				return
			}
			for _, move := range l {
				moves[at] = move
				from(at + 1)
			}
		}
		from(0)
	}
}

// P8.2 to P8.5: long rows of moves, always the same ones.
func TestManyMoves(t *testing.T) {
	s := uint64(2463534242)
	for _, x := range tries() {
		keys := append(slices.Clone(x.Leaves), 0, 1, most)
		for _, b := range x.Branches {
			keys = append(keys, b.Key, b.Key+1)
		}
		for range 20 {
			var moves []api.Move
			for range 100 {
				s ^= s << 13
				s ^= s >> 7
				s ^= s << 17
				moves = append(moves, api.Move{Kind: int(s % 5), Key: keys[s>>8%uint64(len(keys))]})
			}
			checkMoves(t, x, moves)
		}
	}
}

func spoil[T any](l []T, by T) {
	l = l[:cap(l)]
	for i := range l {
		l[i] = by
	}
}

// R3: the trie stays as it is, the room behind its ends, too, and isn't kept; what Path tells is new memory.
func TestMemory(t *testing.T) {
	for _, x := range tries() {
		branches := append(slices.Clone(x.Branches), branch(77, 7, 8), branch(78, 8, 9))
		leaves := append(slices.Clone(x.Leaves), 77, 78, 79)
		wasBranches, wasLeaves := slices.Clone(branches), slices.Clone(leaves)
		roomy := api.Trie{Branches: branches[:len(x.Branches)], Leaves: leaves[:len(x.Leaves)]}
		c := started(t, roomy)
		if l := all(t, c); !slices.Equal(l, trie.Run(x)) {
			t.Fatalf("%v: %v", x, l)
		}
		if !slices.Equal(branches, wasBranches) || !slices.Equal(leaves, wasLeaves) {
			t.Fatalf("%v became %v, %v", x, branches, leaves)
		}
		spoil(branches, branch(99, 9, 9))
		spoil(leaves, 99)
		for do(t, c.Open); c.Left() > 0; do(t, c.Next) {
			for do(t, c.Open); c.Left() > 0; do(t, c.Next) {
				was := c.Path()
				spoil(c.Path(), 98)
				checkPlace(t, "a path that was spoilt", c, 2, c.Left(), was...)
			}
			do(t, c.Up)
		}
		do(t, c.Up)
		if l := all(t, c); !slices.Equal(l, trie.Run(x)) {
			t.Fatalf("%v, spoilt: %v", x, l)
		}
	}
}

// R5: two cursors of one trie don't touch one another.
func TestApart(t *testing.T) {
	x := example()
	a, b := started(t, x), started(t, x)
	do(t, a.Open, a.Next, a.Open)
	checkPlace(t, "the other one", b, 0, 0)
	do(t, b.Open, b.Open, b.Next)
	checkPlace(t, "the one", a, 2, 1, 7, 2)
	checkPlace(t, "the other one", b, 2, 2, 3, 5)
	if a.Steps() != 3 || b.Steps() != 3 {
		t.Errorf("%d and %d steps", a.Steps(), b.Steps())
	}
}

// fuzzed makes a trie of bytes: a Key of each first one, and of the next ones that rise its leaves.
func fuzzed(b []byte) api.Trie {
	var rows []row
	for i := 0; i+1 < len(b); {
		r := row{key: uint64(len(rows)) * 3, leaves: numbers(uint64(b[i]))}
		for i++; i < len(b) && b[i] > b[i-1]; i++ {
			r.leaves = append(r.leaves, uint64(b[i]))
		}
		rows = append(rows, r)
	}
	return laid(rows...)
}

// R1, P8.2 to P8.5: whatever moves are made, all is as the model tells.
func FuzzMoves(f *testing.F) {
	f.Add([]byte{}, []byte{1, 1, 2, 2, 2})
	f.Add([]byte{1, 5, 9, 2}, []byte{1, 1, 4, 4, 4, 10, 3, 0, 2})
	f.Add([]byte{3, 3, 3, 200}, []byte{1, 3, 1, 3, 2, 4, 200, 1, 2, 2})
	f.Fuzz(func(t *testing.T, b, moves []byte) {
		var l []api.Move
		for i, kind := range moves {
			l = append(l, api.Move{Kind: int(kind % 6), Key: uint64(moves[(i+1)%len(moves)])})
		}
		checkMoves(t, fuzzed(b), l)
	})
}
