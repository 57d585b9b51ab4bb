package trie_test

import (
	"math"
	"slices"
	"testing"

	"colander/api"
	"colander/trie"
)

const most = math.MaxUint64

func at(a, b uint64) api.Pair {
	return api.Pair{A: a, B: b}
}

func pairs(l ...uint64) []api.Pair {
	var out []api.Pair
	for i := 0; i+1 < len(l); i += 2 {
		out = append(out, at(l[i], l[i+1]))
	}
	return out
}

// many are so many pairs in order, the first one of that A; so many to an A.
func many(n int, a uint64, each int) []api.Pair {
	out := make([]api.Pair, n)
	for i := range out {
		out[i] = at(a+uint64(i/each), uint64(i%each))
	}
	return out
}

// runs are those at the edges, and others that are always the same.
func runs() [][]api.Pair {
	l := [][]api.Pair{
		nil, {}, pairs(0, 0), pairs(most, most), pairs(0, 0, most, most), pairs(0, most, 1, 0), pairs(1, 5, 2, 3, 2, 9),
		pairs(0, 0, 0, 1, 0, 2), pairs(0, 0, 1, 0, 2, 0), pairs(most, 0, most, 1, most, most), pairs(5, 5, 6, 4, 7, 3, 8, 2),
		pairs(most-1, most, most, 0), pairs(0, 7, 1<<63-1, 7, 1<<63, 7, most, 7), pairs(3, 0, 3, most, 4, 0, 4, most),
		many(33, 2, 1), many(32, 0, 2), many(31, 5, 31), many(40, 1, 7),
	}
	x := uint64(88172645463325252)
	for i := range 20 {
		var m []api.Pair
		for a := range uint64(7) {
			for b := range uint64(6) {
				x ^= x << 13
				x ^= x >> 7
				x ^= x << 17
				if x%20 < uint64(i) {
					m = append(m, at(a, b))
				}
			}
		}
		l = append(l, m)
	}
	return l
}

// laid is the trie of a run, by a way of its own: the pairs of a Key are taken off together, again and again.
func laid(l []api.Pair) api.Trie {
	var out api.Trie
	for len(l) > 0 {
		behind := slices.IndexFunc(l, func(p api.Pair) bool { return p.A != l[0].A })
		if behind < 0 {
			behind = len(l)
		}
		from := len(out.Leaves)
		for _, p := range l[:behind] {
			out.Leaves = append(out.Leaves, p.B)
		}
		out.Branches = append(out.Branches, api.Branch{Key: l[0].A, From: from, To: len(out.Leaves)})
		l = l[behind:]
	}
	return out
}

func firsts(l []api.Pair) []uint64 {
	var out []uint64
	for _, p := range l {
		out = append(out, p.A)
	}
	return slices.Compact(out)
}

func seconds(l []api.Pair, a uint64) []uint64 {
	var out []uint64
	for _, p := range l {
		if p.A == a {
			out = append(out, p.B)
		}
	}
	return out
}

// probes are numbers in, between, ahead of and behind those of all runs.
func probes() []uint64 {
	return []uint64{0, 1, 2, 3, 4, 5, 6, 7, 8, 9, 10, 33, 34, 35, 1<<63 - 1, 1 << 63, 1<<63 + 1, most - 1, most}
}

func same(a, b api.Trie) bool {
	return slices.Equal(a.Branches, b.Branches) && slices.Equal(a.Leaves, b.Leaves)
}

func none(t api.Trie) bool {
	return t.Branches == nil && t.Leaves == nil
}

func checkTrie(t *testing.T, what string, is api.Trie, e api.Errno, want api.Trie) {
	t.Helper()
	if e == api.OK && same(is, want) {
		return
	}
	if len(is.Leaves)+len(want.Leaves) > 100 {
		t.Errorf("%s: %d branches, %d leaves and error %d, want %d and %d", what, len(is.Branches), len(is.Leaves), e, len(want.Branches), len(want.Leaves))
		return
	}
	t.Errorf("%s: %v and error %d, want %v", what, is, e, want)
}

func checkError(t *testing.T, what string, is api.Trie, e, want api.Errno) {
	t.Helper()
	if e != want || !none(is) {
		t.Errorf("%s: %d branches, %d leaves and error %d, want error %d alone", what, len(is.Branches), len(is.Leaves), e, want)
	}
}

// P7.1: the example.
func TestOfExample(t *testing.T) {
	x, e := trie.Of(pairs(1, 5, 2, 3, 2, 9))
	checkTrie(t, "Of", x, e, api.Trie{Branches: []api.Branch{{Key: 1, From: 0, To: 1}, {Key: 2, From: 1, To: 3}}, Leaves: []uint64{5, 3, 9}})
}

// P7.1
func TestOf(t *testing.T) {
	for _, l := range runs() {
		x, e := trie.Of(l)
		checkTrie(t, "Of", x, e, laid(l))
		if e := trie.Check(x); e != api.OK {
			t.Errorf("Check of Of(%v): %d", l, e)
		}
		if m := trie.Run(x); !slices.Equal(m, l) {
			t.Errorf("Run of Of(%v): %v", l, m)
		}
	}
}

// P7.1: what is no run.
func TestOfErrors(t *testing.T) {
	for why, l := range map[string][]api.Pair{
		"falling A":                pairs(2, 3, 1, 5),
		"falling A, rising B":      pairs(2, 3, 1, 9, 3, 3),
		"falling B":                pairs(1, 5, 2, 9, 2, 3),
		"twice":                    pairs(1, 5, 1, 5),
		"twice 0":                  pairs(0, 0, 0, 0),
		"twice, at the end":        pairs(1, 5, 2, 3, 2, 9, 2, 9),
		"an A again":               pairs(1, 5, 2, 3, 1, 9),
		"falling, the first alone": pairs(9, 0, 1, 0, 2, 0, 3, 0),
		"round the greatest":       pairs(most, most, 0, 0),
		"one too many":             many(api.MaxRun+1, 0, 1024),
		"one too many, one key":    many(api.MaxRun+1, 0, api.MaxRun+1),
	} {
		x, e := trie.Of(l)
		checkError(t, "Of, "+why, x, e, api.ErrRun)
	}
}

// P7.1, P7.2: as many as may be, in one branch, in one each, and in some.
func TestFull(t *testing.T) {
	for _, each := range []int{1, 1000, 1024, api.MaxRun} {
		l := many(api.MaxRun, 3, each)
		x, e := trie.Of(l)
		if e != api.OK || trie.Check(x) != api.OK {
			t.Fatalf("%d to a key: %d, %d", each, e, trie.Check(x))
		}
		if m := trie.Run(x); !slices.Equal(m, l) {
			t.Errorf("%d to a key: Run has %d pairs", each, len(m))
		}
		branches := (api.MaxRun + each - 1) / each
		if a, b := trie.Size(x); a != branches || b != api.MaxRun {
			t.Errorf("%d to a key: Size %d %d", each, a, b)
		}
		if k := trie.Keys(x); len(k) != branches || k[0] != 3 || k[branches-1] != uint64(branches+2) {
			t.Errorf("%d to a key: %d Keys", each, len(k))
		}
		last := l[api.MaxRun-1]
		if !trie.Has(x, 3, 0) || !trie.Has(x, last.A, last.B) || trie.Has(x, last.A, last.B+1) || trie.Has(x, last.A+1) || trie.Has(x, 2) {
			t.Errorf("%d to a key: Has", each)
		}
	}
}

// P7.1: against the chapter's words, of all that is small: it may be if it is the trie of some run.
func TestCheckSmall(t *testing.T) {
	type small struct {
		branches     [2]api.Branch
		leaves       [3]uint64
		manyB, manyL int
	}
	of := func(x api.Trie) small {
		s := small{manyB: len(x.Branches), manyL: len(x.Leaves)}
		copy(s.branches[:], x.Branches)
		copy(s.leaves[:], x.Leaves)
		return s
	}
	may := map[small]bool{}
	all := many(9, 0, 3)
	for set := range 1 << len(all) {
		var l []api.Pair
		for i, p := range all {
			if set>>i&1 == 1 {
				l = append(l, p)
			}
		}
		if x := laid(l); len(x.Branches) <= 2 && len(x.Leaves) <= 3 {
			may[of(x)] = true
		}
	}
	var branches []api.Branch
	for key := range uint64(3) {
		for from := -1; from <= 4; from++ {
			for to := -1; to <= 4; to++ {
				branches = append(branches, api.Branch{Key: key, From: from, To: to})
			}
		}
	}
	rows := [][]api.Branch{nil}
	for i, b := range branches {
		rows = append(rows, branches[i:i+1])
		for _, c := range branches {
			rows = append(rows, []api.Branch{b, c})
		}
	}
	found := 0
	for _, leaves := range words(3, 3) {
		for _, row := range rows {
			x := api.Trie{Branches: row, Leaves: leaves}
			e := trie.Check(x)
			if (e == api.OK) != may[of(x)] || e != api.OK && e != api.ErrTrie {
				t.Fatalf("Check(%v): %d", x, e)
			}
			if e == api.OK {
				found++
			}
		}
	}
	if found != len(may) {
		t.Errorf("%d of %d that may be were asked", found, len(may))
	}
}

// words are all rows of at most so many numbers that are less than a bound.
func words(many int, bound uint64) [][]uint64 {
	out := [][]uint64{{}}
	for from := 0; many > 0; many-- {
		to := len(out)
		for _, l := range out[from:to] {
			for n := range bound {
				out = append(out, append(slices.Clone(l), n))
			}
		}
		from = to
	}
	return out
}

// P7.2: the examples.
func TestKeysExamples(t *testing.T) {
	x := laid(pairs(1, 5, 2, 3, 2, 9))
	for _, c := range []struct {
		path, keys []uint64
		has        bool
	}{
		{nil, []uint64{1, 2}, true},
		{[]uint64{2}, []uint64{3, 9}, true},
		{[]uint64{1}, []uint64{5}, true},
		{[]uint64{7}, nil, false},
		{[]uint64{2, 9}, nil, true},
		{[]uint64{2, 4}, nil, false},
		{[]uint64{1, 3}, nil, false},
		{[]uint64{7, 5}, nil, false},
		{[]uint64{2, 9, 0}, nil, false},
		{[]uint64{1, 5, 2, 3, 2, 9}, nil, false},
	} {
		if k := trie.Keys(x, c.path...); !slices.Equal(k, c.keys) {
			t.Errorf("Keys, %v: %v, want %v", c.path, k, c.keys)
		}
		if has := trie.Has(x, c.path...); has != c.has {
			t.Errorf("Has, %v: %t", c.path, has)
		}
	}
	if a, b := trie.Size(x); a != 2 || b != 3 {
		t.Errorf("Size: %d, %d", a, b)
	}
}

// P7.2: of all tries and paths, held against pairs.
func TestKeys(t *testing.T) {
	for _, l := range runs() {
		x := laid(l)
		first := firsts(l)
		if a, b := trie.Size(x); a != len(first) || b != len(l) {
			t.Errorf("Size of %v: %d, %d", l, a, b)
		}
		if k := trie.Keys(x); !slices.Equal(k, first) || trie.Has(x) != (len(l) > 0) {
			t.Errorf("Keys of %v: %v, Has %t", l, k, trie.Has(x))
		}
		for _, a := range append(probes(), first...) {
			second := seconds(l, a)
			if k := trie.Keys(x, a); !slices.Equal(k, second) || trie.Has(x, a) != (len(second) > 0) {
				t.Errorf("Keys of %v, %d: %v, Has %t", l, a, k, trie.Has(x, a))
			}
			for _, b := range append(probes(), second...) {
				if trie.Has(x, a, b) != slices.Contains(l, at(a, b)) || len(trie.Keys(x, a, b)) != 0 {
					t.Errorf("Has of %v, %d %d: %t", l, a, b, trie.Has(x, a, b))
				}
				for _, more := range [][]uint64{{a, b, 0}, {a, b, a}, {a, b, a, b}, {a, b, b, b, b, b, b}} {
					if trie.Has(x, more...) || len(trie.Keys(x, more...)) != 0 {
						t.Errorf("%v has %v", l, more)
					}
				}
			}
		}
	}
}
