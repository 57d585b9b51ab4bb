package cursor_test

import (
	"math"
	"slices"
	"testing"

	"colander/api"
	"colander/cursor"
)

const most = math.MaxUint64

func branch(key uint64, from, to int) api.Branch {
	return api.Branch{Key: key, From: from, To: to}
}

// row is a Key, and the leaves of its branch.
type row struct {
	key    uint64
	leaves []uint64
}

func laid(l ...row) api.Trie {
	var out api.Trie
	for _, r := range l {
		from := len(out.Leaves)
		out.Leaves = append(out.Leaves, r.leaves...)
		out.Branches = append(out.Branches, branch(r.key, from, len(out.Leaves)))
	}
	return out
}

func numbers(l ...uint64) []uint64 {
	return l
}

// rising are so many numbers, from the first one on, each so much more than the one ahead.
func rising(many int, first, step uint64) []uint64 {
	out := make([]uint64, many)
	for i := range out {
		out[i] = first + uint64(i)*step
	}
	return out
}

// each has, under so many Keys, one leaf each.
func each(many int, first, step uint64) api.Trie {
	var l []row
	for i, key := range rising(many, first, step) {
		l = append(l, row{key, numbers(uint64(i))})
	}
	return laid(l...)
}

// example is the chapter's trie.
func example() api.Trie {
	return laid(row{3, numbers(1, 5, 9)}, row{7, numbers(2)})
}

// tries are those at the edges, and others that are always the same.
func tries() []api.Trie {
	l := []api.Trie{
		{}, {Branches: []api.Branch{}, Leaves: []uint64{}}, example(),
		laid(row{0, numbers(0)}), laid(row{most, numbers(most)}), laid(row{0, numbers(0, most)}, row{most, numbers(0, most)}),
		laid(row{most - 2, numbers(most-2, most-1, most)}, row{most - 1, numbers(most-1, most)}, row{most, numbers(most)}),
		laid(row{0, numbers(most)}, row{1, numbers(0)}), laid(row{5, numbers(9)}, row{6, numbers(8)}, row{7, numbers(7)}),
		laid(row{1<<63 - 1, numbers(1)}, row{1 << 63, numbers(1 << 63)}, row{1<<63 + 1, numbers(0, 1<<63-1, 1<<63+1)}),
		laid(row{2, rising(33, 0, 1)}, row{4, rising(32, 5, 2)}, row{9, rising(31, 1<<40, 1<<20)}),
		each(17, 0, 1), each(16, 3, 2), each(9, 1<<50, 1<<49),
	}
	x := uint64(88172645463325252)
	for many := range 12 {
		var rows []row
		for key := range uint64(6) {
			var leaves []uint64
			for n := range uint64(9) {
				x ^= x << 13
				x ^= x >> 7
				x ^= x << 17
				if x%12 < uint64(many) {
					leaves = append(leaves, n*n)
				}
			}
			if len(leaves) > 0 {
				rows = append(rows, row{key * 3, leaves})
			}
		}
		l = append(l, laid(rows...))
	}
	return l
}

func log(n int) int {
	k := 0
	for n >= 2 {
		n, k = n/2, k+1
	}
	return k
}

// checkPlace holds all that tells where a cursor stands against the path there (of no end), how many places are left, and the depth.
func checkPlace(t *testing.T, what string, c *cursor.Cursor, depth, left int, path ...uint64) {
	t.Helper()
	key, is := uint64(0), left > 0
	if is {
		key = path[len(path)-1]
	}
	if n := c.Depth(); n != depth {
		t.Fatalf("%s: Depth %d, want %d", what, n, depth)
	}
	if n := c.Left(); n != left {
		t.Fatalf("%s: Left %d, want %d", what, n, left)
	}
	if k, ok := c.Key(); k != key || ok != is {
		t.Fatalf("%s: Key %d, %t, want %d, %t", what, k, ok, key, is)
	}
	if p := c.Path(); !slices.Equal(p, path) {
		t.Fatalf("%s: Path %v, want %v", what, p, path)
	}
}

func started(t *testing.T, x api.Trie) *cursor.Cursor {
	t.Helper()
	c, e := cursor.New(x)
	if e != api.OK || c == nil {
		t.Fatalf("New(%v): %d", x, e)
	}
	return c
}

// do makes moves that can be done.
func do(t *testing.T, moves ...func() api.Errno) {
	t.Helper()
	for i, move := range moves {
		if e := move(); e != api.OK {
			t.Fatalf("move %d: %d", i, e)
		}
	}
}

// checkError asks for an error, by which nothing changes.
func checkError(t *testing.T, what string, c *cursor.Cursor, e func() api.Errno, want api.Errno) {
	t.Helper()
	depth, left, path, steps := c.Depth(), c.Left(), c.Path(), c.Steps()
	if got := e(); got != want {
		t.Fatalf("%s: %d, want %d", what, got, want)
	}
	checkPlace(t, what, c, depth, left, path...)
	if c.Steps() != steps {
		t.Fatalf("%s: %d steps, want %d", what, c.Steps(), steps)
	}
}

// P8.2, P8.3: the examples, in one go.
func TestExamples(t *testing.T) {
	c := started(t, example())
	seek := func(key uint64) func() api.Errno {
		return func() api.Errno { return c.Seek(key) }
	}
	checkPlace(t, "New", c, 0, 0)
	do(t, c.Open)
	checkPlace(t, "Open", c, 1, 2, 3)
	do(t, c.Open, seek(4))
	checkPlace(t, "Seek 4", c, 2, 2, 3, 5)
	do(t, seek(10))
	checkPlace(t, "Seek 10", c, 2, 0, 3)
	checkError(t, "Next", c, c.Next, api.ErrNone)
	checkError(t, "Open", c, c.Open, api.ErrArg)
	do(t, c.Up)
	checkPlace(t, "Up", c, 1, 2, 3)
	do(t, c.Next, c.Open)
	checkPlace(t, "Next; Open", c, 2, 1, 7, 2)
	do(t, c.Up, c.Next)
	checkPlace(t, "Up; Next", c, 1, 0)
	checkError(t, "Open", c, c.Open, api.ErrNone)
}

// P8.1: what may not be is told; with nil.
func TestNewErrors(t *testing.T) {
	three := numbers(1, 5, 9)
	for why, x := range map[string]api.Trie{
		"leaves alone":        {Leaves: numbers(1)},
		"branches alone":      {Branches: []api.Branch{branch(1, 0, 1)}},
		"no leaves":           {Branches: []api.Branch{branch(1, 0, 0)}},
		"keys fall":           {Branches: []api.Branch{branch(2, 0, 1), branch(1, 1, 3)}, Leaves: three},
		"a key twice":         {Branches: []api.Branch{branch(2, 0, 1), branch(2, 1, 3)}, Leaves: three},
		"leaves fall":         {Branches: []api.Branch{branch(1, 0, 2)}, Leaves: numbers(5, 3)},
		"a leaf twice":        {Branches: []api.Branch{branch(1, 0, 2)}, Leaves: numbers(5, 5)},
		"not from 0 on":       {Branches: []api.Branch{branch(1, 1, 3)}, Leaves: three},
		"from below 0 on":     {Branches: []api.Branch{branch(1, -1, 3)}, Leaves: three},
		"a hole":              {Branches: []api.Branch{branch(1, 0, 1), branch(2, 2, 3)}, Leaves: three},
		"not to the end":      {Branches: []api.Branch{branch(1, 0, 2)}, Leaves: three},
		"behind the end":      {Branches: []api.Branch{branch(1, 0, 4)}, Leaves: three},
		"behind, with room":   {Branches: []api.Branch{branch(1, 0, 3)}, Leaves: three[:2]},
		"far behind the end":  {Branches: []api.Branch{branch(1, 0, math.MaxInt)}, Leaves: three},
		"far ahead":           {Branches: []api.Branch{branch(1, math.MinInt, 3)}, Leaves: three},
		"one too many":        laid(row{1, rising(api.MaxRun+1, 0, 1)}),
		"one too many, apart": laid(row{1, rising(api.MaxRun, 0, 1)}, row{2, numbers(0)}),
	} {
		if c, e := cursor.New(x); e != api.ErrTrie || c != nil {
			t.Errorf("New, %s: %d, %t", why, e, c != nil)
		}
	}
}

// P8.1: at its root, though there be no branch, or as much as may be.
func TestNew(t *testing.T) {
	for _, x := range append(tries(), laid(row{1, rising(api.MaxRun, 0, 1)}), each(api.MaxRun, 0, 1)) {
		c := started(t, x)
		checkPlace(t, "New", c, 0, 0)
		if c.Steps() != 0 {
			t.Errorf("New: %d steps", c.Steps())
		}
	}
}

// P8.3: the row of a trie without branches has no place.
func TestEmpty(t *testing.T) {
	for _, x := range []api.Trie{{}, {Branches: []api.Branch{}, Leaves: []uint64{}}} {
		c := started(t, x)
		for opened := 1; opened <= 2; opened++ {
			do(t, c.Open)
			checkPlace(t, "Open", c, 1, 0)
			checkError(t, "Open", c, c.Open, api.ErrNone)
			checkError(t, "Next", c, c.Next, api.ErrNone)
			checkError(t, "Seek", c, func() api.Errno { return c.Seek(0) }, api.ErrNone)
			do(t, c.Up)
			checkPlace(t, "Up", c, 0, 0)
			if c.Steps() != opened {
				t.Errorf("%d steps, want %d", c.Steps(), opened)
			}
		}
	}
}

// P8.3: what can't be done, at each depth; ErrArg goes ahead of ErrNone.
func TestMoveErrors(t *testing.T) {
	c := started(t, example())
	seek := func() api.Errno { return c.Seek(3) }
	last := func() api.Errno { return c.Seek(most) }
	checkError(t, "Up, at the root", c, c.Up, api.ErrArg)
	checkError(t, "Next, at the root", c, c.Next, api.ErrArg)
	checkError(t, "Seek, at the root", c, seek, api.ErrArg)
	do(t, c.Open, c.Open)
	checkError(t, "Open, at a leaf", c, c.Open, api.ErrArg)
	do(t, last)
	checkPlace(t, "among leaves, at the end", c, 2, 0, 3)
	checkError(t, "Open, at an end of leaves", c, c.Open, api.ErrArg)
	checkError(t, "Next, at an end of leaves", c, c.Next, api.ErrNone)
	checkError(t, "Seek, at an end of leaves", c, seek, api.ErrNone)
	do(t, c.Up, last)
	checkPlace(t, "among Keys, at the end", c, 1, 0)
	checkError(t, "Open, at an end of Keys", c, c.Open, api.ErrNone)
	checkError(t, "Next, at an end of Keys", c, c.Next, api.ErrNone)
	checkError(t, "Seek, at an end of Keys", c, seek, api.ErrNone)
	do(t, c.Up)
	checkPlace(t, "Up", c, 0, 0)
	checkError(t, "Up, at the root again", c, c.Up, api.ErrArg)
	do(t, c.Open)
	checkPlace(t, "Open", c, 1, 2, 3)
}

// kinds are numbers of no kind of moves.
func kinds() []int {
	return []int{0, -1, 5, 6, 9, 1 << 32, 1<<32 + api.CuNext, math.MaxInt, math.MinInt}
}

// P8.3: Move makes the moves of its kinds, whatever key stands with those that seek none.
func TestMove(t *testing.T) {
	c := started(t, example())
	move := func(kind int, key uint64) func() api.Errno {
		return func() api.Errno { return c.Move(api.Move{Kind: kind, Key: key}) }
	}
	none := func(where string) {
		for _, kind := range kinds() {
			checkError(t, "no move, "+where, c, move(kind, 3), api.ErrMove)
		}
	}
	none("at the root")
	checkError(t, "CuUp, at the root", c, move(api.CuUp, 0), api.ErrArg)
	checkError(t, "CuNext, at the root", c, move(api.CuNext, 0), api.ErrArg)
	checkError(t, "CuSeek, at the root", c, move(api.CuSeek, 3), api.ErrArg)
	do(t, move(api.CuOpen, most), move(api.CuOpen, 7))
	checkPlace(t, "CuOpen, CuOpen", c, 2, 3, 3, 1)
	none("at a leaf")
	do(t, move(api.CuNext, 9))
	checkPlace(t, "CuNext", c, 2, 2, 3, 5)
	do(t, move(api.CuSeek, 6))
	checkPlace(t, "CuSeek", c, 2, 1, 3, 9)
	do(t, move(api.CuNext, 0))
	none("at an end")
	checkError(t, "CuNext, at an end", c, move(api.CuNext, 0), api.ErrNone)
	checkError(t, "CuSeek, at an end", c, move(api.CuSeek, 0), api.ErrNone)
	do(t, move(api.CuUp, 9))
	checkPlace(t, "CuUp", c, 1, 2, 3)
}

// P8.2 to P8.4, R4: of nil ErrNil, or nothing.
func TestNil(t *testing.T) {
	var c *cursor.Cursor
	for what, move := range map[string]func() api.Errno{
		"Open": c.Open, "Up": c.Up, "Next": c.Next, "Seek": func() api.Errno { return c.Seek(3) },
		"Move": func() api.Errno { return c.Move(api.Move{Kind: api.CuOpen}) }, "no move": func() api.Errno { return c.Move(api.Move{}) },
	} {
		if e := move(); e != api.ErrNil {
			t.Errorf("%s of nil: %d", what, e)
		}
	}
	checkPlace(t, "nil", c, 0, 0)
	if c.Steps() != 0 {
		t.Errorf("%d steps of nil", c.Steps())
	}
}

// R1: what New did not make doesn't panic; there is no branch.
func TestNotMade(t *testing.T) {
	c := new(cursor.Cursor)
	checkPlace(t, "not made", c, 0, 0)
	checkError(t, "Up", c, c.Up, api.ErrArg)
	do(t, c.Open)
	checkPlace(t, "not made, opened", c, 1, 0)
	checkError(t, "Open", c, c.Open, api.ErrNone)
}

// P8.4: one for each that opens, and goes next; none for what goes up.
func TestSteps(t *testing.T) {
	c := started(t, example())
	steps := func(want int) {
		t.Helper()
		if n := c.Steps(); n != want {
			t.Fatalf("%d steps, want %d", n, want)
		}
	}
	do(t, c.Open)
	steps(1)
	do(t, c.Open)
	steps(2)
	do(t, c.Next, c.Next, c.Next)
	steps(5)
	checkError(t, "Next", c, c.Next, api.ErrNone)
	do(t, c.Up)
	steps(5)
	do(t, c.Next, c.Open, c.Up, c.Up)
	steps(7)
	for range 10 {
		checkError(t, "Up", c, c.Up, api.ErrArg)
	}
	do(t, c.Open)
	steps(8)
}

// checkSeek seeks in a row, of which so many are left, and holds place and steps against going through it.
func checkSeek(t *testing.T, c *cursor.Cursor, left []uint64, key uint64) {
	t.Helper()
	far := slices.IndexFunc(left, func(n uint64) bool { return n >= key })
	if far < 0 {
		far = len(left)
	}
	was := c.Steps()
	do(t, func() api.Errno { return c.Seek(key) })
	if c.Left() != len(left)-far {
		t.Fatalf("Seek %d: %d left, want %d", key, c.Left(), len(left)-far)
	}
	if n, is := c.Key(); is != (far < len(left)) || is && n != left[far] {
		t.Fatalf("Seek %d: Key %d, %t", key, n, is)
	}
	if looks := c.Steps() - was; looks < 1 || looks > 2+2*log(1+far) {
		t.Fatalf("Seek %d, %d places on: %d steps", key, far, looks)
	}
}

// P8.3, P8.4: of rows of all kinds each key, from each place on: the numbers, and those next to them.
func TestSeek(t *testing.T) {
	for _, l := range [][]uint64{
		rising(70, 0, 1), rising(70, 5, 1), rising(40, 3, 2), rising(40, 1, 1000), rising(20, most-19, 1), rising(20, most-38, 2),
		numbers(0, most), numbers(most-1, most), numbers(0), numbers(most), numbers(0, 1, 2, 3, 1000, 1001, 5000, most),
		numbers(10, 1<<32, 1<<32+1, 1<<63-1, 1<<63, 1<<63+1), slices.Concat(rising(20, 0, 1), rising(20, 1<<40, 1), rising(20, most-19, 1)),
	} {
		keys := numbers(0, 1, most-1, most, 1<<63-1, 1<<63)
		for _, n := range l {
			keys = append(keys, n-1, n, n+1)
		}
		rows := []row{{4, numbers(3)}, {5, l}, {6, numbers(1, 2)}}
		asKeys := make([]row, len(l))
		for i, n := range l {
			asKeys[i] = row{n, numbers(7)}
		}
		for from := range l {
			for _, key := range keys {
				c := started(t, laid(rows...))
				do(t, c.Open, c.Next, c.Open)
				for range from {
					do(t, c.Next)
				}
				checkSeek(t, c, l[from:], key)
				c = started(t, laid(asKeys...))
				do(t, c.Open)
				for range from {
					do(t, c.Next)
				}
				checkSeek(t, c, l[from:], key)
			}
		}
	}
}

// P8.4: seeks far on, in rows as long as may be, whose numbers stand together, or apart.
func TestSeekFar(t *testing.T) {
	for _, step := range []uint64{1, 3, 1 << 40} {
		l := rising(api.MaxRun, 2, step)
		of := map[string]api.Trie{"leaves": laid(row{9, l}), "Keys": each(api.MaxRun, 2, step)}
		for what, x := range of {
			c := started(t, x)
			do(t, c.Open)
			if what == "leaves" {
				do(t, c.Open)
			}
			for far, at := 0, 0; at+far < len(l); far = far*2 + 1 {
				checkSeek(t, c, l[at:], l[at+far])
				at += far
				checkSeek(t, c, l[at:], l[at])
				checkSeek(t, c, l[at:], 0)
			}
			checkSeek(t, c, l[len(l)-c.Left():], most)
		}
	}
}

// P8.4: many short seeks in a long row are done in time: each goes over no more of it than it must.
func TestSeekOften(t *testing.T) {
	x := each(api.MaxRun, 0, 1)
	c := started(t, x)
	do(t, c.Open)
	for key := range uint64(api.MaxRun) {
		if e := c.Seek(key); e != api.OK || c.Left() != api.MaxRun-int(key) {
			t.Fatalf("Seek %d: %d, %d left", key, e, c.Left())
		}
	}
	if n := c.Steps(); n > 1+4*api.MaxRun {
		t.Errorf("%d steps", n)
	}
}
