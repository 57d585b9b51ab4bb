package view

import (
	"sort"

	"colander/api"
	"colander/run"
)

// head is what is left of a row: of what a tier adds, or of what it drops. The tier is told by its place: the greater it is, the newer the tier.
type head struct {
	row  []api.Pair
	tier int
	adds bool
}

// mark is a pair that one goes to, or leaves behind.
type mark api.Pair

func (m mark) isReached(p api.Pair) bool {
	return run.Compare(p, api.Pair(m)) >= 0
}

func (m mark) isPassed(p api.Pair) bool {
	return run.Compare(p, api.Pair(m)) > 0
}

// onwards is a row from its first pair on that is far enough. That one is mostly near: leaps to it begin with the least, and grow.
func onwards(row []api.Pair, farEnough func(api.Pair) bool) []api.Pair {
	from, to := 0, 1
	for to < len(row) && !farEnough(row[to]) {
		from, to = to, 2*to
	}
	to = min(to, len(row))
	n := sort.Search(to-from, func(i int) bool {
		return farEnough(row[from+i])
	})
	return row[from+n:]
}

func copyOf(row []api.Pair) []api.Pair {
	out := make([]api.Pair, len(row))
	copy(out, row)
	return out
}
