package tiers

import (
	"colander/api"
	"colander/run"
)

func areRuns(t api.Tier) bool {
	return run.Check(t.Adds) == api.OK && run.Check(t.Drops) == api.OK
}

// areApart is asked of two runs alone.
func areApart(t api.Tier) bool {
	both, e := run.Meet(t.Adds, t.Drops)
	return e == api.OK && len(both) == 0
}

func copied(l ...api.Tier) []api.Tier {
	out := make([]api.Tier, 0, len(l))
	for _, t := range l {
		out = append(out, api.Tier{Adds: copyOf(t.Adds), Drops: copyOf(t.Drops)})
	}
	return out
}

func copyOf[T any](l []T) []T {
	out := make([]T, len(l))
	copy(out, l)
	return out
}
