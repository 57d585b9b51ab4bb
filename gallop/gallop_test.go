package gallop_test

import (
	"math"
	"slices"
	"testing"

	"colander/api"
	"colander/gallop"
)

const most = math.MaxUint64

// row is so many numbers, each so far behind the one ahead.
func row(many int, first, step uint64) []uint64 {
	out := make([]uint64, many)
	for i := range out {
		out[i] = first + uint64(i)*step
	}
	return out
}

// noRows do not rise, for each reason one at least.
func noRows() map[string][]uint64 {
	return map[string][]uint64{
		"falling":                  {5, 3},
		"twice":                    {4, 4},
		"twice 0":                  {0, 0},
		"twice the greatest":       {most, most},
		"twice, at the end":        {1, 2, 3, 9, 9},
		"twice, at the beginning":  {1, 1, 2, 3, 9},
		"falling, the first alone": {9, 1, 2, 3, 4},
		"falling, the last alone":  {1, 2, 3, 4, 0},
		"falling, in the middle":   {1, 2, 7, 6, 8, 9},
		"round the greatest":       {most - 1, most, 0, 1},
		"a long one, at its end":   append(row(5000, 1, 2), 1),
	}
}

// rows are those at the edges, and others that are always the same.
func rows() [][]uint64 {
	out := [][]uint64{
		nil, {}, {0}, {7}, {most}, {0, most}, {most - 1, most}, {0, 1}, {3, 5, 8, 9, 12}, {2, 5, 9}, {1<<63 - 1, 1 << 63, 1<<63 + 1},
		row(31, 0, 1), row(32, 1, 1), row(33, 0, 2), row(16, 1, 3),
	}
	x := uint64(88172645463325252)
	for i := range 16 {
		var l []uint64
		for n := uint64(0); len(l) < 3*i; n++ {
			x ^= x << 13
			x ^= x >> 7
			x ^= x << 17
			if x%3 == 0 {
				l = append(l, n)
			}
		}
		out = append(out, l)
	}
	return out
}

// keys are those of a row, those next to them, and those at the edges; rising.
func keys(l []uint64) []uint64 {
	out := []uint64{0, 1, 1 << 63, most - 1, most}
	for _, n := range l {
		out = append(out, n, n-1, n+1)
	}
	slices.Sort(out)
	return slices.Compact(out)
}

// first is the place that is sought, found number by number.
func first(l []uint64, from int, is func(uint64) bool) int {
	for from < len(l) && !is(l[from]) {
		from++
	}
	return from
}

// log is found by doubling.
func log(n int) int {
	k := 0
	for many := 2; many <= n; many *= 2 {
		k++
	}
	return k
}

type call struct {
	name string
	seek func(l []uint64, from int, key uint64) (int, int, api.Errno)
	is   func(n, key uint64) bool
}

func calls() []call {
	return []call{
		{"Seek", gallop.Seek, func(n, key uint64) bool { return n >= key }},
		{"Behind", gallop.Behind, func(n, key uint64) bool { return n > key }},
	}
}

// P4.1
func TestRising(t *testing.T) {
	for _, l := range rows() {
		if !gallop.Rising(l) {
			t.Errorf("Rising(%v): false", l)
		}
	}
	for why, l := range noRows() {
		if gallop.Rising(l) {
			t.Errorf("Rising, %s: true", why)
		}
	}
}

// checkSeek holds a call's place against want, and its looks against the promise.
func checkSeek(t *testing.T, c call, l []uint64, from int, key uint64, want int) {
	t.Helper()
	at, looks, e := c.seek(l, from, key)
	least, greatest := 1, 2+2*log(1+want-from)
	if from == len(l) {
		least, greatest = 0, 0
	}
	if at != want || looks < least || looks > greatest || e != api.OK {
		t.Errorf("%s of %d numbers from %d, %d: place %d, looks %d, error %d; want place %d, looks %d to %d",
			c.name, len(l), from, key, at, looks, e, want, least, greatest)
	}
}

// P4.2: the examples.
func TestSeekExamples(t *testing.T) {
	l := []uint64{3, 5, 8, 9, 12}
	seek, behind := calls()[0], calls()[1]
	checkSeek(t, seek, l, 0, 8, 2)
	checkSeek(t, seek, l, 3, 4, 3)
	checkSeek(t, seek, l, 0, 13, 5)
	checkSeek(t, behind, l, 0, 8, 3)
	checkSeek(t, seek, l, 5, 1, 5)
}

// P4.2: of all places and keys.
func TestSeek(t *testing.T) {
	for _, l := range rows() {
		for from := range len(l) + 1 {
			for _, key := range keys(l) {
				for _, c := range calls() {
					checkSeek(t, c, l, from, key, first(l, from, func(n uint64) bool { return c.is(n, key) }))
				}
			}
		}
	}
}

// P4.2: the looks grow as the log of how far the place is from where it is sought from, not of how long the row is.
func TestSeekLooks(t *testing.T) {
	for many := range 300 {
		l := row(many, 0, 2)
		for want := range many + 1 {
			for _, c := range calls() {
				for _, key := range []uint64{2 * uint64(want), 2*uint64(want) - 1} {
					checkSeek(t, c, l, 0, key, first(l, 0, func(n uint64) bool { return c.is(n, key) }))
				}
			}
		}
	}
}

// P4.2: rows at and next to powers of 2, sought from the beginning, from the middle and near the end.
func TestSeekLong(t *testing.T) {
	for _, many := range []int{1023, 1024, 1025, 1<<20 - 1, 1 << 20, 1<<20 + 1} {
		l := row(many, 5, 1)
		for _, from := range []int{0, 1, many / 2, many - 3, many - 1, many} {
			for far := 1; from+far <= many; far *= 8 {
				for _, want := range []int{from, from + far - 1, from + far, many - 1, many} {
					want = max(want, from)
					key := uint64(want) + 5
					checkSeek(t, calls()[0], l, from, key, want)
					checkSeek(t, calls()[1], l, from, key-1, want)
				}
			}
		}
	}
}

// P4.2
func TestSeekErrors(t *testing.T) {
	rising := []uint64{3, 5, 8, 9, 12}
	for _, c := range calls() {
		for _, from := range []int{math.MinInt, -2, -1, 6, 7, math.MaxInt} {
			for _, key := range []uint64{0, 3, 8, 12, most} {
				if at, looks, e := c.seek(rising, from, key); at != 0 || looks != 0 || e != api.ErrArg {
					t.Errorf("%s from %d: %d, %d, %d", c.name, from, at, looks, e)
				}
			}
		}
		for _, from := range []int{-1, 1} {
			if at, looks, e := c.seek(nil, from, 0); at != 0 || looks != 0 || e != api.ErrArg {
				t.Errorf("%s in none from %d: %d, %d, %d", c.name, from, at, looks, e)
			}
		}
		if at, looks, e := c.seek(nil, 0, 0); at != 0 || looks != 0 || e != api.OK {
			t.Errorf("%s in none: %d, %d, %d", c.name, at, looks, e)
		}
		for why, l := range noRows() {
			for _, from := range []int{0, 1, len(l) - 1, len(l), -1, len(l) + 1} {
				for _, key := range []uint64{0, l[0], l[len(l)-1], most} {
					if at, looks, e := c.seek(l, from, key); at != 0 || looks != 0 || e != api.ErrArg {
						t.Errorf("%s, %s, from %d: %d, %d, %d", c.name, why, from, at, looks, e)
					}
				}
			}
		}
	}
}

// P4.3
func TestSpan(t *testing.T) {
	l := []uint64{3, 5, 8, 9, 12}
	for _, x := range []struct {
		low, high uint64
		from, to  int
	}{
		{4, 9, 1, 4}, {9, 4, 0, 0}, {8, 8, 2, 3}, {6, 7, 2, 2}, {0, 2, 0, 0}, {0, 3, 0, 1}, {13, most, 5, 5}, {12, 12, 4, 5},
		{0, most, 0, 5}, {most, most, 5, 5}, {0, 0, 0, 0}, {13, 12, 0, 0}, {most, 0, 0, 0},
	} {
		if from, to := gallop.Span(l, x.low, x.high); from != x.from || to != x.to {
			t.Errorf("Span(l, %d, %d): %d %d, want %d %d", x.low, x.high, from, to, x.from, x.to)
		}
	}
	for _, l := range rows() {
		for _, low := range keys(l) {
			for _, high := range keys(l) {
				wantFrom, wantTo := 0, 0
				if low <= high {
					wantFrom = first(l, 0, func(n uint64) bool { return n >= low })
					wantTo = first(l, 0, func(n uint64) bool { return n > high })
				}
				if from, to := gallop.Span(l, low, high); from != wantFrom || to != wantTo {
					t.Errorf("Span(%v, %d, %d): %d %d, want %d %d", l, low, high, from, to, wantFrom, wantTo)
				}
			}
		}
	}
}

// P4.3
func TestHas(t *testing.T) {
	for _, l := range rows() {
		for _, key := range keys(l) {
			if has := gallop.Has(l, key); has != slices.Contains(l, key) {
				t.Errorf("Has(%v, %d): %t", l, key, has)
			}
		}
	}
}

// P4.1, P4.3, P4.4: of rows that do not rise nothing is told.
func TestNoRows(t *testing.T) {
	for why, l := range noRows() {
		for _, x := range [][2]uint64{{0, most}, {l[0], l[0]}, {l[0], most}, {most, most}, {most, 0}} {
			if from, to := gallop.Span(l, x[0], x[1]); from != 0 || to != 0 {
				t.Errorf("Span, %s, %v: %d %d", why, x, from, to)
			}
		}
		for _, n := range l {
			if gallop.Has(l, n) {
				t.Errorf("Has, %s, %d: true", why, n)
			}
		}
		for _, other := range append(rows(), l) {
			for _, x := range [][2][]uint64{{l, other}, {other, l}} {
				if both, looks := gallop.Meet(x[0], x[1]); len(both) != 0 || looks != 0 {
					t.Errorf("Meet, %s, with %v: %v, %d", why, other, both, looks)
				}
			}
		}
	}
}

// P4.5
func TestLog(t *testing.T) {
	for n, want := range map[int]int{
		math.MinInt: 0, -9: 0, -1: 0, 0: 0, 1: 0, 2: 1, 3: 1, 4: 2, 7: 2, 8: 3, 9: 3, 15: 3, 16: 4,
		1<<31 - 1: 30, 1 << 31: 31, 1<<62 - 1: 61, 1 << 62: 62, math.MaxInt: 62,
	} {
		if k := gallop.Log(n); k != want {
			t.Errorf("Log(%d): %d, want %d", n, k, want)
		}
	}
	for n := range 5000 {
		if k := gallop.Log(n); k != log(n) {
			t.Errorf("Log(%d): %d, want %d", n, k, log(n))
		}
	}
}
