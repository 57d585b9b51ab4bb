package merge_test

import (
	"slices"
	"testing"

	"colander/api"
	"colander/merge"
	"colander/tiers"
)

// P12.5: however the steps are parted, it comes to the same, which is what tiers.Join says; each is done once; what has been done is the beginning of what it comes to.
func TestParted(t *testing.T) {
	x := uint64(12)
	for range 60 {
		older, newer, oldest := someTier(&x), someTier(&x), next(&x)%2 == 0
		want, e := tiers.Join(older, newer, oldest)
		if e != api.OK {
			t.Fatal(e)
		}
		for _, atOnce := range []uint64{1, 2, 7, 40, 1000} {
			m, e := merge.Begin(older, newer, oldest)
			all, steps := merge.Left(m), 0
			for e == api.OK && merge.Left(m) > 0 {
				var n int
				asked := int(next(&x) % (atOnce + 1))
				m, n, e = merge.Step(m, asked)
				if steps += n; n != min(asked, all-steps+n) || merge.Left(m) != all-steps || merge.Check(m) != api.OK {
					t.Fatalf("Step %d: %d done, %d left, Check %d", asked, n, merge.Left(m), merge.Check(m))
				}
				mustBegin(t, want.Adds, m.Out.Adds)
				mustBegin(t, want.Drops, m.Out.Drops)
				if tiers.Check([]api.Tier{m.Out}) != api.OK {
					t.Fatalf("what is done may not be: %v", m.Out)
				}
			}
			if e != api.OK || steps != all {
				t.Fatalf("error %d, %d steps of %d", e, steps, all)
			}
			is, e := merge.End(m)
			sameTier(t, "End", is, e, want, api.OK)
		}
	}
}

// P12.5: two parts of any length are one.
func TestTwoParts(t *testing.T) {
	for _, older := range allTiers() {
		for _, newer := range allTiers() {
			m, e := merge.Begin(older, newer, len(older.Adds) == 1)
			for n := range 5 {
				for more := range 5 {
					first, done, e1 := merge.Step(m, n)
					last, done2, e2 := merge.Step(first, more)
					whole, all, e3 := merge.Step(m, n+more)
					if e+e1+e2+e3 != api.OK || done+done2 != all || !merge.Same(last, whole) {
						t.Fatalf("%v: %d and %d are %v, not %v", m, n, more, last, whole)
					}
				}
			}
		}
	}
}

func mustBegin(t *testing.T, whole, part []api.Pair) {
	t.Helper()
	if len(part) > len(whole) || !slices.Equal(whole[:len(part)], part) {
		t.Fatalf("%v is not the beginning of %v", part, whole)
	}
}

// lists are all that a merge has, with what stands behind the ends.
func lists(m api.Merge) [][]api.Pair {
	out := [][]api.Pair{m.Older.Adds, m.Older.Drops, m.Newer.Adds, m.Newer.Drops, m.Out.Adds, m.Out.Drops}
	for i, l := range out {
		out[i] = l[:cap(l)]
	}
	return out
}

// roomy is a merge with room behind the end of each list.
func roomy(m api.Merge) api.Merge {
	row := func(l []api.Pair) []api.Pair {
		return append(slices.Clone(l), pairs(90, 90, 91, 91, 92, 92)...)[:len(l)]
	}
	each := func(t api.Tier) api.Tier {
		return tier(row(t.Adds), row(t.Drops))
	}
	return merging(each(m.Older), each(m.Newer), m.Oldest, m.At, each(m.Out))
}

// spoil writes over all of an answer, and looks whether one of its lists is reached from another.
func spoil(t *testing.T, what string, m api.Merge) {
	t.Helper()
	all := lists(m)
	for i, l := range all {
		for j := range l {
			l[j] = at(uint64(1000+i), uint64(j))
		}
	}
	for i, l := range all {
		for j := range l {
			if l[j] != at(uint64(1000+i), uint64(j)) {
				t.Errorf("%s: two lists of the answer are one memory", what)
			}
		}
	}
}

// R3: what is handed in stays as it is, the room behind its end too; what is answered is new memory.
func TestMemory(t *testing.T) {
	for done := range 4 {
		for _, oldest := range []bool{true, false} {
			older, newer := exampleTiers()
			m := roomy(merging(older, newer, oldest, done, wantOut(older, newer, oldest, done)))
			var before [][]api.Pair
			for _, l := range lists(m) {
				before = append(before, slices.Clone(l))
			}
			calls := map[string]func() api.Merge{
				"Begin":   func() api.Merge { x, _ := merge.Begin(m.Older, m.Newer, oldest); return x },
				"Step 0":  func() api.Merge { x, _, _ := merge.Step(m, 0); return x },
				"Step 1":  func() api.Merge { x, _, _ := merge.Step(m, 1); return x },
				"Step 9":  func() api.Merge { x, _, _ := merge.Step(m, 9); return x },
				"Step -1": func() api.Merge { x, _, _ := merge.Step(m, -1); return x },
				"End":     func() api.Merge { x, _ := merge.End(m); return api.Merge{Out: x} },
				"Left":    func() api.Merge { return api.Merge{At: merge.Left(m)} },
				"Check":   func() api.Merge { return api.Merge{At: int(merge.Check(m))} },
				"Same":    func() api.Merge { return api.Merge{Oldest: merge.Same(m, m)} },
			}
			for name, call := range calls {
				x := call()
				want := keptMerge(x)
				spoil(t, name, x)
				for i, l := range lists(m) {
					if !slices.Equal(l, before[i]) {
						t.Fatalf("%s: what was handed in became %v", name, l)
					}
				}
				sameMerge(t, name+", again", call(), 0, want, 0)
			}
		}
	}
}

// P12.3: what has been done is no more than has been done: behind the end of its lists there is no room that other steps could share.
func TestNoRoom(t *testing.T) {
	for done := range 4 {
		m, _, _ := merge.Step(example(0), done)
		for i, l := range [][]api.Pair{m.Out.Adds, m.Out.Drops} {
			if cap(l) != len(l) {
				t.Errorf("Step %d, list %d: %d pairs, room for %d", done, i, len(l), cap(l))
			}
		}
	}
}

// R1: no merge makes a call panic; each answers by the chapter's words.
func FuzzMerge(f *testing.F) {
	f.Add([]byte{}, 0, 1, false)
	f.Add([]byte{0, 5, 10, 3, 7, 64}, 2, 2, false)
	f.Add([]byte{255, 254, 128, 1}, 1, -1, true)
	f.Fuzz(func(t *testing.T, b []byte, done, n int, oldest bool) {
		var l [3]api.Tier
		for _, c := range b {
			x := &l[c%3]
			p := at(uint64(c>>4&3), uint64(c>>6))
			if c&8 == 0 {
				x.Adds = append(x.Adds, p)
			} else {
				x.Drops = append(x.Drops, p)
			}
		}
		fine := tiers.Check(l[:2]) == api.OK
		m, e := merge.Begin(l[0], l[1], oldest)
		if (e == api.OK) != fine || !fine && e != api.ErrTier {
			t.Fatalf("Begin: %d", e)
		}
		m, _, e = merge.Step(merging(l[0], l[1], oldest, done, l[2]), n)
		fine = fine && done >= 0 && done <= len(itsPairs(l[0], l[1])) && alike(l[2], wantOut(l[0], l[1], oldest, done))
		switch {
		case !fine:
			sameMerge(t, "Step of none", m, e, api.Merge{}, api.ErrMerge)
		case n < 0:
			sameMerge(t, "Step below 0", m, e, api.Merge{}, api.ErrArg)
		default:
			to := done + min(n, len(itsPairs(l[0], l[1]))-done)
			sameMerge(t, "Step", m, e, merging(l[0], l[1], oldest, to, wantOut(l[0], l[1], oldest, to)), api.OK)
		}
		if tiers.Check(l[:2]) == api.OK {
			checkAll(t, l[0], l[1], oldest)
		}
	})
}
