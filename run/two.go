package run

import (
	"iter"

	"colander/api"
)

// side is which of two runs a pair is of.
type side int

const (
	ofFirst side = iota
	ofBoth
	ofSecond
	sides // how many there are
)

// choice is of which sides pairs are kept.
type choice [sides]bool

func (c choice) keeps(s side) bool {
	return c[s]
}

func combine(a, b []api.Pair, keeps func(side) bool) ([]api.Pair, api.Errno) {
	if Check(a) != api.OK || Check(b) != api.OK {
		return nil, api.ErrRun
	}
	var out []api.Pair
	for p, s := range together(a, b) {
		if !keeps(s) {
			continue
		}
		if len(out) == api.MaxRun {
			return nil, api.ErrFull
		}
		out = append(out, p)
	}
	return out, api.OK
}

// together tells the pairs of both runs in order, each once, with its side.
func together(a, b []api.Pair) iter.Seq2[api.Pair, side] {
	return func(yield func(api.Pair, side) bool) {
		i, j := 0, 0
	pairs:
		for i < len(a) || j < len(b) {
			s := least(a[i:], b[j:])
			var p api.Pair
			if s != ofSecond {
				p = a[i]
				i++
			}
			if s != ofFirst {
				p = b[j]
				j++
			}
			if !yield(p, s) {
				break pairs
			}
		}
	}
}

// least tells the side of the least pair of two runs, one of which has some.
func least(a, b []api.Pair) side {
	switch {
	case len(a) == 0:
		return ofSecond
	case len(b) == 0:
		return ofFirst
	case a[0] == b[0]:
		return ofBoth
	case Compare(a[0], b[0]) < 0:
		return ofFirst
	}
	return ofSecond
}
