package merge_test

import (
	"math"
	"slices"
	"testing"

	"colander/api"
)

const most = math.MaxUint64

func at(a, b uint64) api.Pair {
	return api.Pair{A: a, B: b}
}

// pairs are of two numbers each.
func pairs(l ...uint64) []api.Pair {
	var out []api.Pair
	for i := 0; i+1 < len(l); i += 2 {
		out = append(out, at(l[i], l[i+1]))
	}
	return out
}

func tier(adds, drops []api.Pair) api.Tier {
	return api.Tier{Adds: adds, Drops: drops}
}

// many are so many pairs in order, the first one of that A; 1024 to an A.
func many(n int, a uint64) []api.Pair {
	out := make([]api.Pair, n)
	for i := range out {
		out[i] = at(a+uint64(i/1024), uint64(i%1024))
	}
	return out
}

// merging is a merge of which some has been done.
func merging(older, newer api.Tier, oldest bool, done int, out api.Tier) api.Merge {
	return api.Merge{Older: older, Newer: newer, Oldest: oldest, At: done, Out: out}
}

// noTiers are what may not be, each with a reason.
func noTiers() map[string]api.Tier {
	return map[string]api.Tier{
		"adds, falling A":     tier(pairs(2, 3, 1, 5), nil),
		"adds, falling B":     tier(pairs(1, 5, 2, 9, 2, 3), nil),
		"adds, twice":         tier(pairs(1, 5, 1, 5), nil),
		"adds, one too many":  tier(many(api.MaxRun+1, 0), nil),
		"drops, falling A":    tier(nil, pairs(2, 3, 1, 5)),
		"drops, falling B":    tier(nil, pairs(1, 5, 2, 9, 2, 3)),
		"drops, twice":        tier(nil, pairs(1, 5, 1, 5)),
		"drops, one too many": tier(nil, many(api.MaxRun+1, 0)),
		"together":            tier(pairs(1, 1), pairs(1, 1)),
		"together at the end": tier(pairs(1, 1, 2, 2, 5, 0), pairs(0, 0, 5, 0)),
	}
}

// before tells whether a pair is ahead of another.
func before(p, q api.Pair) bool {
	return p.A < q.A || p.A == q.A && p.B < q.B
}

// itsPairs are all that one of both adds, or drops, each once, in order, by the chapter's words.
func itsPairs(older, newer api.Tier) []api.Pair {
	var out []api.Pair
	for _, l := range [][]api.Pair{older.Adds, older.Drops, newer.Adds, newer.Drops} {
		for _, p := range l {
			if !slices.Contains(out, p) {
				out = append(out, p)
			}
		}
	}
	slices.SortFunc(out, func(p, q api.Pair) int {
		switch {
		case before(p, q):
			return -1
		case before(q, p):
			return 1
		}
		return 0
	})
	return out
}

// wantOut is what the first ones of its pairs come to: of each, the newer tier says, where it has it.
func wantOut(older, newer api.Tier, oldest bool, done int) api.Tier {
	var out api.Tier
	for _, p := range itsPairs(older, newer)[:done] {
		says := older
		if slices.Contains(newer.Adds, p) || slices.Contains(newer.Drops, p) {
			says = newer
		}
		if slices.Contains(says.Adds, p) {
			out.Adds = append(out.Adds, p)
		} else if !oldest {
			out.Drops = append(out.Drops, p)
		}
	}
	return out
}

// allTiers are all tiers of three pairs at most: each of them added, dropped, or neither.
func allTiers() []api.Tier {
	out := []api.Tier{{}}
	for _, p := range pairs(0, most, 1, 0, 1, 1) {
		for _, t := range slices.Clone(out) {
			out = append(out, tier(append(slices.Clone(t.Adds), p), t.Drops), tier(t.Adds, append(slices.Clone(t.Drops), p)))
		}
	}
	return out
}

// next is a number of a row that looks like chance and is always the same.
func next(x *uint64) uint64 {
	*x = *x*6364136223846793005 + 1442695040888963407
	return *x >> 33
}

// someTier has pairs out of some hundred, a part of them dropped.
func someTier(x *uint64) api.Tier {
	var t api.Tier
	dense := next(x)%6 + 1
	for a := range uint64(10) {
		for b := range uint64(12) {
			switch next(x) % (dense + 2) {
			case 0:
				t.Adds = append(t.Adds, at(a*a, b))
			case 1:
				t.Drops = append(t.Drops, at(a*a, b))
			}
		}
	}
	return t
}

func kept(t api.Tier) api.Tier {
	return tier(slices.Clone(t.Adds), slices.Clone(t.Drops))
}

func keptMerge(m api.Merge) api.Merge {
	return merging(kept(m.Older), kept(m.Newer), m.Oldest, m.At, kept(m.Out))
}

func alike(a, b api.Tier) bool {
	return slices.Equal(a.Adds, b.Adds) && slices.Equal(a.Drops, b.Drops)
}

// alikeMerges is a way of its own to tell whether merges are the same.
func alikeMerges(a, b api.Merge) bool {
	return a.Oldest == b.Oldest && a.At == b.At && alike(a.Older, b.Older) && alike(a.Newer, b.Newer) && alike(a.Out, b.Out)
}

func sameMerge(t *testing.T, what string, is api.Merge, e api.Errno, want api.Merge, wantE api.Errno) {
	t.Helper()
	if e == wantE && alikeMerges(is, want) {
		return
	}
	if len(is.Older.Adds)+len(is.Newer.Adds)+len(want.Out.Adds)+len(want.Out.Drops) > 50 {
		t.Fatalf("%s: error %d, at %d, %d added, %d dropped, instead of %d, at %d, %d added, %d dropped", what, e, is.At, len(is.Out.Adds), len(is.Out.Drops), wantE, want.At, len(want.Out.Adds), len(want.Out.Drops))
	}
	t.Fatalf("%s: %v, error %d, instead of %v, error %d", what, is, e, want, wantE)
}

func sameTier(t *testing.T, what string, is api.Tier, e api.Errno, want api.Tier, wantE api.Errno) {
	t.Helper()
	if e == wantE && alike(is, want) {
		return
	}
	if len(is.Adds)+len(is.Drops)+len(want.Adds)+len(want.Drops) > 50 {
		t.Fatalf("%s: error %d, %d added, %d dropped, instead of %d, %d, %d", what, e, len(is.Adds), len(is.Drops), wantE, len(want.Adds), len(want.Drops))
	}
	t.Fatalf("%s: %v, error %d, instead of %v, error %d", what, is, e, want, wantE)
}
