package tiers

import (
	"iter"
	"slices"

	"colander/api"
	"colander/run"
)

// word is what tiers say of a pair.
type word int8

const (
	nothing word = iota // none of them has it
	isThere
	isGone
)

func fromNewest(l ...api.Tier) iter.Seq[api.Tier] {
	return func(yield func(api.Tier) bool) {
		for behind := range len(l) {
			if !yield(l[len(l)-1-behind]) {
				return
			}
		}
	}
}

// said is what tiers say of each pair that one of them has: the newest of these has said it first.
func said(l ...api.Tier) map[api.Pair]word {
	words := map[api.Pair]word{}
	say := func(pairs []api.Pair, w word) {
		for _, p := range pairs {
			if words[p] == nothing {
				words[p] = w
			}
		}
	}
	for t := range fromNewest(l...) {
		say(t.Adds, isThere)
		say(t.Drops, isGone)
	}
	return words
}

// asOne is tiers as one, though that may be more than runs hold.
func asOne(oldest bool, l ...api.Tier) api.Tier {
	words := said(l...)
	return api.Tier{
		Adds:  inOrder(words, func(w word) bool { return w == isThere }),
		Drops: inOrder(words, func(w word) bool { return w == isGone && !oldest }),
	}
}

func inOrder(words map[api.Pair]word, isKept func(word) bool) []api.Pair {
	var out []api.Pair
	for p, w := range words {
		if isKept(w) {
			out = append(out, p)
		}
	}
	slices.SortFunc(out, run.Compare)
	return out
}

func joined(oldest bool, l ...api.Tier) (api.Tier, api.Errno) {
	one := asOne(oldest, l...)
	if max(len(one.Adds), len(one.Drops)) > api.MaxRun {
		return api.Tier{}, api.ErrFull
	}
	return one, api.OK
}
