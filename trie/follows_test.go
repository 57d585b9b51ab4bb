package trie_test

import (
	"slices"
	"testing"

	"colander/api"
	"colander/run"
	"colander/trie"
)

// P7.4: Run of Of is the run, Of of Run the trie.
func TestRunFollows(t *testing.T) {
	for _, l := range append(runs(), many(api.MaxRun, 3, 1000)) {
		x, e := trie.Of(l)
		if m := trie.Run(x); e != api.OK || !slices.Equal(m, l) || run.Check(m) != api.OK {
			t.Errorf("Run of Of has %d pairs of %d, %d", len(m), len(l), e)
		}
		y, e := trie.Of(trie.Run(x))
		checkTrie(t, "Of of Run", y, e, x)
	}
}

// P7.4: paths of two that it has are its pairs; gone down by Keys, all of them are come by in order.
func TestPathsFollow(t *testing.T) {
	for _, l := range runs() {
		x, _ := trie.Of(l)
		var told, had []api.Pair
		for _, a := range trie.Keys(x) {
			for _, b := range trie.Keys(x, a) {
				told = append(told, at(a, b))
			}
		}
		for _, a := range append(probes(), firsts(l)...) {
			for _, b := range append(probes(), seconds(l, a)...) {
				if trie.Has(x, a, b) {
					had = append(had, at(a, b))
				}
			}
		}
		had, _ = run.Of(had...)
		if !slices.Equal(told, l) {
			t.Errorf("by Keys: %v, not %v", told, l)
		}
		for _, p := range l {
			if !slices.Contains(had, p) {
				t.Errorf("%v has not %v", l, p)
			}
		}
		if len(had) != len(l) {
			t.Errorf("%v has %v", l, had)
		}
	}
}

// P7.4: merged is as of the union, and may be; whichever is ahead.
func TestMergeFollows(t *testing.T) {
	for _, a := range runs() {
		for _, b := range runs() {
			x, _ := trie.Of(a)
			y, _ := trie.Of(b)
			merged, e := trie.Merge(x, y)
			both, _ := run.Union(a, b)
			want, _ := trie.Of(both)
			checkTrie(t, "Merge", merged, e, want)
			turned, e := trie.Merge(y, x)
			checkTrie(t, "Merge, turned", turned, e, merged)
			if trie.Check(merged) != api.OK {
				t.Errorf("Merge(%v, %v) may not be: %v", x, y, merged)
			}
		}
	}
}

// P7.4: two cuts, one behind the other, merged, are one cut; each of them may be.
func TestCutsFollow(t *testing.T) {
	for _, l := range runs() {
		x, _ := trie.Of(l)
		for i, from := range probes() {
			for j, middle := range probes()[i:] {
				for _, to := range probes()[i+j:] {
					a, e := trie.Cut(x, from, middle)
					b, f := trie.Cut(x, middle, to)
					if e != api.OK || f != api.OK || trie.Check(a) != api.OK || trie.Check(b) != api.OK {
						t.Fatalf("Cut of %v, %d, %d, %d: %v, %v", x, from, middle, to, a, b)
					}
					both, e := trie.Merge(a, b)
					want, _ := trie.Cut(x, from, to)
					checkTrie(t, "two cuts, merged", both, e, want)
				}
			}
		}
	}
}

func spoil[T any](l []T, by T) {
	l = l[:cap(l)]
	for i := range l {
		l[i] = by
	}
}

// roomy has room behind the ends of its lists, and something there.
func roomy(x api.Trie) api.Trie {
	branches := append(slices.Clone(x.Branches), branch(77, 7, 8), branch(78, 8, 9))
	leaves := append(slices.Clone(x.Leaves), 77, 78, 79)
	return api.Trie{Branches: branches[:len(x.Branches)], Leaves: leaves[:len(x.Leaves)]}
}

func whole(x api.Trie) api.Trie {
	return api.Trie{Branches: x.Branches[:len(x.Branches)+2], Leaves: x.Leaves[:len(x.Leaves)+3]}
}

func kept(x api.Trie) api.Trie {
	return api.Trie{Branches: slices.Clone(x.Branches), Leaves: slices.Clone(x.Leaves)}
}

// R3: what is handed in stays as it is, the room behind its ends, too; what is answered is new memory.
func TestMemory(t *testing.T) {
	for _, l := range runs() {
		x, y := roomy(laid(l)), roomy(laid(pairs(1, 5, 2, 3, 2, 9)))
		list := append(slices.Clone(l), at(77, 77), at(78, 78))
		path := []uint64{2, 9, 77}
		wasX, wasY, wasList, wasPath := kept(whole(x)), kept(whole(y)), slices.Clone(list), slices.Clone(path)
		calls := map[string]func() (api.Trie, []api.Pair, []uint64){
			"Of":          func() (api.Trie, []api.Pair, []uint64) { z, _ := trie.Of(list[:len(l)]); return z, nil, nil },
			"Run":         func() (api.Trie, []api.Pair, []uint64) { return api.Trie{}, trie.Run(x), nil },
			"Keys":        func() (api.Trie, []api.Pair, []uint64) { return api.Trie{}, nil, trie.Keys(x) },
			"Keys of one": func() (api.Trie, []api.Pair, []uint64) { return api.Trie{}, nil, trie.Keys(x, path[:1]...) },
			"Keys of two": func() (api.Trie, []api.Pair, []uint64) { return api.Trie{}, nil, trie.Keys(x, path[:2]...) },
			"Keys of it":  func() (api.Trie, []api.Pair, []uint64) { return api.Trie{}, nil, trie.Keys(y, path[:1]...) },
			"Merge":       func() (api.Trie, []api.Pair, []uint64) { z, _ := trie.Merge(x, y); return z, nil, nil },
			"Merge none":  func() (api.Trie, []api.Pair, []uint64) { z, _ := trie.Merge(x, api.Trie{}); return z, nil, nil },
			"Merge to":    func() (api.Trie, []api.Pair, []uint64) { z, _ := trie.Merge(api.Trie{}, x); return z, nil, nil },
			"Merge it":    func() (api.Trie, []api.Pair, []uint64) { z, _ := trie.Merge(x, x); return z, nil, nil },
			"Cut":         func() (api.Trie, []api.Pair, []uint64) { z, _ := trie.Cut(x, 1, 3); return z, nil, nil },
			"Cut all":     func() (api.Trie, []api.Pair, []uint64) { z, _ := trie.Cut(x, 0, most); return z, nil, nil },
			"Cut none":    func() (api.Trie, []api.Pair, []uint64) { z, _ := trie.Cut(x, 1, 1); return z, nil, nil },
		}
		for name, call := range calls {
			z, m, keys := call()
			want, wantM, wantKeys := kept(z), slices.Clone(m), slices.Clone(keys)
			spoil(z.Branches, branch(99, 9, 9))
			spoil(z.Leaves, 99)
			spoil(m, at(99, 99))
			spoil(keys, 99)
			if !same(whole(x), wasX) || !same(whole(y), wasY) || !slices.Equal(list, wasList) || !slices.Equal(path, wasPath) {
				t.Fatalf("%s: what was handed in became %v, %v, %v and %v", name, whole(x), whole(y), list, path)
			}
			again, m, keys := call()
			if !same(again, want) || !slices.Equal(m, wantM) || !slices.Equal(keys, wantKeys) {
				t.Errorf("%s, again: %v, %v, %v, want %v, %v, %v", name, again, m, keys, want, wantM, wantKeys)
			}
		}
		trie.Check(x)
		trie.Size(x)
		trie.Has(x, path[:2]...)
		if !same(whole(x), wasX) || !slices.Equal(path, wasPath) {
			t.Fatalf("what was handed in became %v and %v", whole(x), path)
		}
	}
}

// R3: what came stays as it is, though what was handed in changes thereafter.
func TestNotKept(t *testing.T) {
	l := pairs(1, 5, 2, 3, 2, 9)
	want := laid(l)
	x, _ := trie.Of(l)
	spoil(l, at(99, 99))
	merged, _ := trie.Merge(x, x)
	cut, _ := trie.Cut(x, 0, most)
	m, keys, leaves := trie.Run(x), trie.Keys(x), trie.Keys(x, 2)
	checkTrie(t, "Of", x, api.OK, want)
	spoil(x.Branches, branch(99, 9, 9))
	spoil(x.Leaves, 99)
	checkTrie(t, "Merge", merged, api.OK, want)
	checkTrie(t, "Cut", cut, api.OK, want)
	if !slices.Equal(m, pairs(1, 5, 2, 3, 2, 9)) || !slices.Equal(keys, []uint64{1, 2}) || !slices.Equal(leaves, []uint64{3, 9}) {
		t.Errorf("what came became %v, %v, %v", m, keys, leaves)
	}
}

// fuzzed makes a trie, or what is none, of bytes: a branch of each three, and of the others a leaf each.
func fuzzed(b, leaves []byte) api.Trie {
	var out api.Trie
	for i := 0; i+2 < len(b); i += 3 {
		out.Branches = append(out.Branches, branch(uint64(b[i]), int(int8(b[i+1])), int(int8(b[i+2]))))
	}
	for _, n := range leaves {
		out.Leaves = append(out.Leaves, uint64(n))
	}
	return out
}

// R1, P7.1 to P7.4: no trie makes a call panic; what may not be is told so by all, and what may be is of its run.
func FuzzTries(f *testing.F) {
	f.Add([]byte{}, []byte{}, uint64(0), uint64(0))
	f.Add([]byte{1, 0, 1, 2, 1, 3}, []byte{5, 3, 9}, uint64(2), uint64(9))
	f.Add([]byte{2, 0, 1, 2, 1, 3}, []byte{5, 3, 9}, uint64(1), uint64(2))
	f.Add([]byte{1, 0, 2, 2, 1, 3}, []byte{3, 5, 9}, uint64(9), uint64(2))
	f.Add([]byte{1, 0, 255}, []byte{3}, uint64(0), uint64(most))
	f.Add([]byte{1, 0, 127}, []byte{}, uint64(1), uint64(1))
	f.Fuzz(func(t *testing.T, b, leaves []byte, from, to uint64) {
		x := fuzzed(b, leaves)
		m := trie.Run(x)
		is := same(laid(m), x)
		if e := trie.Check(x); is != (e == api.OK) || run.Check(m) != api.OK {
			t.Fatalf("Check(%v): %d, Run %v", x, e, m)
		}
		if keys := trie.Keys(x); !slices.Equal(keys, firsts(m)) || trie.Has(x) != (len(m) > 0) {
			t.Errorf("Keys(%v): %v", x, keys)
		}
		if keys := trie.Keys(x, from); !slices.Equal(keys, seconds(m, from)) || trie.Has(x, from) != (len(keys) > 0) {
			t.Errorf("Keys(%v, %d): %v", x, from, keys)
		}
		if trie.Has(x, from, to) != slices.Contains(m, at(from, to)) {
			t.Errorf("Has(%v, %d, %d)", x, from, to)
		}
		cut, e := trie.Cut(x, from, to)
		merged, f := trie.Merge(x, x)
		if !is {
			checkError(t, "Cut", cut, e, api.ErrTrie)
			checkError(t, "Merge", merged, f, api.ErrTrie)
			return
		}
		checkTrie(t, "Merge", merged, f, x)
		if from > to {
			checkError(t, "Cut", cut, e, api.ErrArg)
		} else if e != api.OK || !slices.Equal(trie.Run(cut), between(m, from, to)) {
			t.Errorf("Cut(%v, %d, %d): %v, %d", x, from, to, cut, e)
		}
	})
}

func between(l []api.Pair, from, to uint64) []api.Pair {
	var out []api.Pair
	for _, p := range l {
		if p.A >= from && p.A < to {
			out = append(out, p)
		}
	}
	return out
}
