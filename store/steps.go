package store

import (
	"slices"

	"colander/api"
	"colander/merge"
)

// rest tells whether there is nothing to be merged of a shelf's tiers.
func rest(l []api.Tier) bool {
	return len(l) == 0 || len(l) == 1 && len(l[0].Drops) == 0
}

// mergeOn makes at most n steps, and tells how many; it makes fewer only where all has come to rest. (A merge stays open only where no steps are left.)
func mergeOn(s *api.Store, n int) int {
	left := n
shelf:
	if s.Open {
		left -= step(s, left)
	}
	if left == 0 {
		return n
	}
	at := slices.IndexFunc(s.Shelves, func(x api.Shelf) bool { return !rest(x.Tiers) })
	if at >= 0 {
		left -= begin(s, at)
		goto shelf
	}
	return n - left
}

// step goes on with the merge that is open, and ends it where it is done.
func step(s *api.Store, n int) int {
	m, made, _ := merge.Step(s.Merge, n)
	s.Merge = m
	if one, e := merge.End(m); e == api.OK {
		x := &s.Shelves[shelfOf(*s, s.Of)]
		x.Tiers = slices.Replace(x.Tiers, 0, 2, one)
		shut(s)
	}
	return made
}

// begin opens the merge of a shelf's oldest two tiers, and tells how many steps that took. Two that are too much for a merge become one at once, with all that lie on them: that is a step of its own.
func begin(s *api.Store, at int) int {
	x := &s.Shelves[at]
	if len(x.Tiers) == 1 {
		// A tier that drops something, though nothing lies under it, is merged with one of nothing.
		x.Tiers = slices.Insert(x.Tiers, 0, api.Tier{})
	}
	m, e := merge.Begin(x.Tiers[0], x.Tiers[1], true)
	if e != api.OK {
		squeeze(s, at)
		return 1
	}
	s.Open, s.Of, s.Merge = true, x.Of, m
	return 0
}
