package merge

import (
	"colander/api"
	"colander/tiers"
)

func begun(older, newer api.Tier, oldest bool) api.Merge {
	return api.Merge{Older: older, Newer: newer, Oldest: oldest}
}

func parts(m api.Merge) []api.Tier {
	return []api.Tier{m.Older, m.Newer, m.Out}
}

// left tells how many steps are left, and whether the merge may be.
func left(m api.Merge) (int, bool) {
	if tiers.Check([]api.Tier{m.Older, m.Newer}) != api.OK {
		return 0, false
	}
	all := pairsOf(m.Older, m.Newer)
	if all > api.MaxRun || m.At < 0 || m.At > all {
		return 0, false
	}
	first := outBehind(begun(m.Older, m.Newer, m.Oldest), m.At)
	if !tiers.Same([]api.Tier{m.Out}, []api.Tier{first}) {
		return 0, false
	}
	return all - m.At, true
}

// goneOn is the merge behind so many steps more, which are left; it shares nothing with that one.
func goneOn(m api.Merge, n int) api.Merge {
	return api.Merge{
		Older:  copied(m.Older),
		Newer:  copied(m.Newer),
		Oldest: m.Oldest,
		At:     m.At + n,
		Out:    outBehind(m, n),
	}
}

// outBehind is what has been done behind so many steps more.
func outBehind(m api.Merge, n int) api.Tier {
	out := withRoom(m.Out, n)
	isThere := saidBy(m.Older, m.Newer)
steps:
	for at, p := range inOrder(rows(m.Older, m.Newer)...) {
		switch {
		case at < m.At:
			// It has been done: if it is kept, it stands in Out already.
		case at == m.At+n:
			break steps
		case isThere(p):
			out.Adds = append(out.Adds, p)
		case !m.Oldest:
			out.Drops = append(out.Drops, p)
		}
	}
	return cut(out)
}

// withRoom is a copy that has room behind its ends for as many pairs more.
func withRoom(t api.Tier, more int) api.Tier {
	room := func(l []api.Pair) []api.Pair {
		out := make([]api.Pair, len(l)+more)
		copy(out, l)
		return out[:len(l)]
	}
	return api.Tier{Adds: room(t.Adds), Drops: room(t.Drops)}
}

// cut takes the room behind the ends away: not all steps put something there.
func cut(t api.Tier) api.Tier {
	return api.Tier{
		Adds:  t.Adds[:len(t.Adds):len(t.Adds)],
		Drops: t.Drops[:len(t.Drops):len(t.Drops)],
	}
}

func copied(t api.Tier) api.Tier {
	return cut(withRoom(t, 0))
}
