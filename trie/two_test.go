package trie_test

import (
	"math"
	"testing"

	"colander/api"
	"colander/trie"
)

// P7.3
func TestCut(t *testing.T) {
	x := laid(pairs(1, 5, 2, 3, 2, 9, 4, 4, most, 0, most, most))
	for _, c := range []struct {
		from, to uint64
		want     []api.Pair
	}{
		{2, 9, pairs(2, 3, 2, 9, 4, 4)}, {2, 4, pairs(2, 3, 2, 9)}, {2, 3, pairs(2, 3, 2, 9)}, {1, 2, pairs(1, 5)}, {0, 2, pairs(1, 5)},
		{0, 1, nil}, {0, 0, nil}, {1, 1, nil}, {2, 2, nil}, {3, 4, nil}, {5, most, nil}, {most, most, nil}, {most - 1, most, nil},
		{0, most, pairs(1, 5, 2, 3, 2, 9, 4, 4)}, {4, most, pairs(4, 4)},
	} {
		out, e := trie.Cut(x, c.from, c.to)
		checkTrie(t, "Cut", out, e, laid(c.want))
	}
	for _, c := range [][2]uint64{{3, 2}, {1, 0}, {most, 0}, {most, most - 1}, {1 << 63, 1<<63 - 1}} {
		for _, x := range []api.Trie{x, {}} {
			out, e := trie.Cut(x, c[0], c[1])
			checkError(t, "Cut, turned", out, e, api.ErrArg)
		}
	}
}

// P7.3: of all tries, held against asking each pair.
func TestCutAll(t *testing.T) {
	for _, l := range runs() {
		for _, from := range probes() {
			for _, to := range probes() {
				out, e := trie.Cut(laid(l), from, to)
				if from > to {
					checkError(t, "Cut, turned", out, e, api.ErrArg)
					continue
				}
				var want []api.Pair
				for _, p := range l {
					if p.A >= from && p.A < to {
						want = append(want, p)
					}
				}
				checkTrie(t, "Cut", out, e, laid(want))
			}
		}
	}
}

// union is what one of both runs has, by a way of its own: the lesser of the first ones is taken, again and again.
func union(a, b []api.Pair) []api.Pair {
	var out []api.Pair
	for len(a)+len(b) > 0 {
		first := len(b) == 0 || len(a) > 0 && (a[0].A < b[0].A || a[0].A == b[0].A && a[0].B <= b[0].B)
		p := api.Pair{}
		if first {
			p = a[0]
		} else {
			p = b[0]
		}
		if len(a) > 0 && a[0] == p {
			a = a[1:]
		}
		if len(b) > 0 && b[0] == p {
			b = b[1:]
		}
		out = append(out, p)
	}
	return out
}

// P7.3
func TestMerge(t *testing.T) {
	x, e := trie.Merge(laid(pairs(1, 5, 2, 3, 2, 9)), laid(pairs(0, 7, 2, 3, 2, 4)))
	checkTrie(t, "Merge", x, e, laid(pairs(0, 7, 1, 5, 2, 3, 2, 4, 2, 9)))
	for _, a := range runs() {
		for _, b := range runs() {
			x, e := trie.Merge(laid(a), laid(b))
			checkTrie(t, "Merge", x, e, laid(union(a, b)))
		}
	}
}

// P7.3: the limit counts what both have once.
func TestMergeLimit(t *testing.T) {
	full := laid(many(api.MaxRun, 3, 1<<18))
	less := laid(many(api.MaxRun-1, 3, 1<<18))
	one, other := laid(many(1, 3, 1)), laid(pairs(0, 0))
	for what, c := range map[string][2]api.Trie{
		"itself": {full, full}, "none": {full, {}}, "what it has": {full, one}, "the last one": {less, full},
	} {
		x, e := trie.Merge(c[0], c[1])
		checkTrie(t, "Merge of as many as may be with "+what, x, e, full)
		x, e = trie.Merge(c[1], c[0])
		checkTrie(t, "Merge of as many as may be with "+what+", turned", x, e, full)
	}
	if x, e := trie.Merge(less, other); e != api.OK || len(x.Leaves) != api.MaxRun || len(x.Branches) != 5 || trie.Check(x) != api.OK {
		t.Errorf("Merge to as many as may be: %d leaves, %d", len(x.Leaves), e)
	}
	for what, c := range map[string][2]api.Trie{
		"a branch more": {full, other}, "a leaf more": {full, laid(pairs(4, most))}, "all twice": {full, laid(many(api.MaxRun, 1<<40, 1))},
		"one more of many": {less, laid(pairs(3, 1, most, 0, most, 1))},
	} {
		x, e := trie.Merge(c[0], c[1])
		checkError(t, "Merge, "+what, x, e, api.ErrFull)
		x, e = trie.Merge(c[1], c[0])
		checkError(t, "Merge, "+what+", turned", x, e, api.ErrFull)
	}
}

func branch(key uint64, from, to int) api.Branch {
	return api.Branch{Key: key, From: from, To: to}
}

func made(leaves []uint64, l ...api.Branch) api.Trie {
	return api.Trie{Branches: l, Leaves: leaves}
}

// noTries may not be, for each reason one at least.
func noTries() map[string]api.Trie {
	three := []uint64{5, 3, 9}
	tooMany := laid(many(api.MaxRun+1, 0, 1<<10))
	return map[string]api.Trie{
		"keys fall":                     made(three, branch(2, 0, 1), branch(1, 1, 3)),
		"a key twice":                   made(three, branch(2, 0, 1), branch(2, 1, 3)),
		"a key twice, leaves rising":    made([]uint64{1, 2}, branch(2, 0, 1), branch(2, 1, 2)),
		"0 twice":                       made([]uint64{1, 2}, branch(0, 0, 1), branch(0, 1, 2)),
		"the last key falls":            made([]uint64{1, 2, 3}, branch(1, 0, 1), branch(3, 1, 2), branch(2, 2, 3)),
		"leaves fall":                   made(three, branch(1, 0, 2), branch(2, 2, 3)),
		"leaves fall, at the end":       made([]uint64{5, 9, 3}, branch(1, 0, 1), branch(2, 1, 3)),
		"a leaf twice":                  made([]uint64{5, 3, 3}, branch(1, 0, 1), branch(2, 1, 3)),
		"a leaf twice, at the first":    made([]uint64{0, 0}, branch(1, 0, 2)),
		"not from 0 on":                 made(three, branch(1, 1, 3)),
		"from below 0 on":               made(three, branch(1, -1, 1), branch(2, 1, 3)),
		"a hole":                        made(three, branch(1, 0, 1), branch(2, 2, 3)),
		"both have one":                 made([]uint64{3, 5, 9}, branch(1, 0, 2), branch(2, 1, 3)),
		"no leaves, the first":          made(three, branch(1, 0, 0), branch(2, 0, 1), branch(3, 1, 3)),
		"no leaves, the last":           made(three, branch(1, 0, 1), branch(2, 1, 3), branch(3, 3, 3)),
		"no leaves, alone":              made(nil, branch(1, 0, 0)),
		"backwards":                     made(three, branch(1, 0, 1), branch(2, 1, 0), branch(3, 0, 3)),
		"not to the end":                made(three, branch(1, 0, 1), branch(2, 1, 2)),
		"behind the end":                made(three, branch(1, 0, 1), branch(2, 1, 4)),
		"behind the end, with room":     made([]uint64{5, 3, 9, 10}[:3], branch(1, 0, 1), branch(2, 1, 4)),
		"far behind the end":            made(three, branch(1, 0, math.MaxInt)),
		"far behind the end, and on":    made(three, branch(1, 0, math.MaxInt), branch(2, math.MaxInt, math.MaxInt)),
		"far ahead":                     made(three, branch(1, math.MinInt, 3)),
		"far ahead, and behind the end": made(three, branch(1, math.MinInt, math.MaxInt)),
		"to far ahead":                  made(three, branch(1, 0, math.MinInt)),
		"leaves alone":                  made(three),
		"branches alone":                made(nil, branch(1, 0, 1), branch(2, 1, 3)),
		"one too many":                  tooMany,
		"one too many, one key":         laid(many(api.MaxRun+1, 0, 1<<21)),
		"more branches than leaves":     made([]uint64{7}, branch(1, 0, 1), branch(2, 1, 1)),
	}
}

// P7.1 to P7.3: of what may not be ErrTrie is told ahead of all else, or nothing.
func TestNoTries(t *testing.T) {
	fine := laid(pairs(1, 5, 2, 3, 2, 9))
	full := laid(many(api.MaxRun, 1<<30, 1<<10))
	for why, x := range noTries() {
		if e := trie.Check(x); e != api.ErrTrie {
			t.Errorf("Check, %s: %d", why, e)
		}
		if m := trie.Run(x); m != nil {
			t.Errorf("Run, %s: %d pairs", why, len(m))
		}
		if a, b := trie.Size(x); a != 0 || b != 0 {
			t.Errorf("Size, %s: %d, %d", why, a, b)
		}
		for _, path := range [][]uint64{nil, {0}, {1}, {2}, {3}, {0, 0}, {0, 1}, {1, 5}, {2, 9}, {1, 5, 2}} {
			if k := trie.Keys(x, path...); k != nil || trie.Has(x, path...) {
				t.Errorf("%s, %v: %d Keys, Has %t", why, path, len(k), trie.Has(x, path...))
			}
		}
		for _, other := range []api.Trie{fine, {}, x, full} {
			out, e := trie.Merge(x, other)
			checkError(t, "Merge, "+why, out, e, api.ErrTrie)
			out, e = trie.Merge(other, x)
			checkError(t, "Merge with what may be, "+why, out, e, api.ErrTrie)
		}
		for _, c := range [][2]uint64{{0, most}, {0, 0}, {2, 1}, {most, 0}, {1, 2}} {
			out, e := trie.Cut(x, c[0], c[1])
			checkError(t, "Cut, "+why, out, e, api.ErrTrie)
		}
	}
}
