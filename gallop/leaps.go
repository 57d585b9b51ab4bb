package gallop

import (
	"cmp"
	"iter"

	"colander/api"
)

func rises[T cmp.Ordered](l []T) bool {
	for i := 1; i < len(l); i++ {
		if l[i-1] >= l[i] {
			return false
		}
	}
	return true
}

func atLeast(key uint64) func(uint64) bool {
	return func(n uint64) bool { return n >= key }
}

func moreThan(key uint64) func(uint64) bool {
	return func(n uint64) bool { return n > key }
}

func search(l []uint64, from int, is func(uint64) bool) (int, int, api.Errno) {
	if from < 0 || from > len(l) || !rises(l) {
		return 0, 0, api.ErrArg
	}
	at, looks := place(l, from, is)
	return at, looks, api.OK
}

// place tells the first place from there on of what is sought, and the looks: behind a number that is, all are.
// Leaps that end at 2^k - 1 leave 2^(k-1) places, which halves tell apart in k - 1 looks: 2 k in all, as the promise allows.
func place(l []uint64, from int, is func(uint64) bool) (int, int) {
	low, high, looks := from, len(l), 0
row:
	for far := range leaps(len(l) - from) {
		looks++
		if is(l[from+far]) {
			high = from + far
			break row
		}
		low = from + far + 1
	}
	for low < high {
		looks++
		middle := low + (high-low)/2
		if is(l[middle]) {
			high = middle
		} else {
			low = middle + 1
		}
	}
	return low, looks
}

// leaps tells how far on to look, below a bound: 0, 1, 3, 7 and so on.
func leaps(bound int) iter.Seq[int] {
	return func(yield func(int) bool) {
		next := 1
	double:
		if next <= bound && yield(next-1) {
			next *= 2
			goto double
		}
	}
}

// meet leaps in the row that is behind, whichever it is: so the looks, too, are the same if the rows change places.
func meet(a, b []uint64) ([]uint64, int) {
	room := make([]uint64, min(len(a), len(b)))
	many, i, j, looks := 0, 0, 0, 0
	for i < len(a) && j < len(b) {
		looks++
		more := 0
		switch cmp.Compare(a[i], b[j]) {
		case -1:
			i, more = place(a, i+1, atLeast(b[j]))
		case 1:
			j, more = place(b, j+1, atLeast(a[i]))
		default:
			room[many] = a[i]
			many, i, j = many+1, i+1, j+1
		}
		looks += more
	}
	// The room is the shorter row's: what is answered keeps no more of it than was found.
	out := make([]uint64, many)
	copy(out, room)
	return out, looks
}
