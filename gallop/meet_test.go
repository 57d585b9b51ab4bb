package gallop_test

import (
	"slices"
	"testing"

	"colander/gallop"
)

// checkMeet holds what both have against sets, and the looks against the promise; and whichever row stands ahead, the same is told.
func checkMeet(t *testing.T, a, b []uint64) {
	t.Helper()
	in := map[uint64]bool{}
	for _, n := range b {
		in[n] = true
	}
	var want []uint64
	for _, n := range a {
		if in[n] {
			want = append(want, n)
		}
	}
	both, looks := gallop.Meet(a, b)
	again, looksAgain := gallop.Meet(b, a)
	short, long := min(len(a), len(b)), max(len(a), len(b))
	if greatest := 8*short*(1+log(1+long)) + 8; looks < 0 || looks > greatest {
		t.Errorf("Meet of %d and %d numbers: %d looks, want at most %d", len(a), len(b), looks, greatest)
	}
	if looks < len(want) {
		t.Errorf("Meet of %d and %d numbers: %d looks, but %d in both", len(a), len(b), looks, len(want))
	}
	if !slices.Equal(both, want) {
		t.Errorf("Meet of %d and %d numbers: %d in both, want %d", len(a), len(b), len(both), len(want))
	}
	if !slices.Equal(again, both) || looksAgain != looks {
		t.Errorf("Meet of %d and %d numbers: the other way round it is another", len(a), len(b))
	}
}

// P4.4
func TestMeetExamples(t *testing.T) {
	l := []uint64{3, 5, 8, 9, 12}
	for _, x := range []struct{ other, want []uint64 }{
		{[]uint64{2, 5, 9}, []uint64{5, 9}},
		{l, l},
		{nil, nil},
		{[]uint64{12}, []uint64{12}},
		{[]uint64{3}, []uint64{3}},
		{[]uint64{0, 4, 6, 10, most}, nil},
		{[]uint64{0, 1, 2}, nil},
		{[]uint64{13, 14}, nil},
	} {
		if both, _ := gallop.Meet(l, x.other); !slices.Equal(both, x.want) {
			t.Errorf("Meet(l, %v): %v, want %v", x.other, both, x.want)
		}
		checkMeet(t, l, x.other)
	}
}

// P4.4, P4.6
func TestMeet(t *testing.T) {
	for _, a := range rows() {
		for _, b := range rows() {
			checkMeet(t, a, b)
		}
	}
}

// P4.4: rows of lengths apart, and such as make for many leaps, long ones too.
func TestMeetLooks(t *testing.T) {
	long := row(1<<20, 1, 2)
	for _, short := range [][]uint64{
		{0}, {1}, {1 << 20}, {1<<21 - 1}, {1 << 21}, {most}, {0, most}, {1, 1<<21 - 1}, {2, 1 << 20, 1<<21 - 2},
		row(1024, 0, 2048), row(1024, 1, 2048), row(1000, 3, 1999), row(1<<19, 0, 4), row(1<<19, 1, 4), row(1<<20, 0, 2), row(1<<20, 1, 2),
		row(1<<20, 1<<20+1, 2), row(1000, 1<<21, 1), row(1000, 1<<21-999, 1),
	} {
		checkMeet(t, long, short)
	}
	for _, block := range []int{1, 2, 3, 4, 7, 8, 9, 31, 32, 33} {
		checkMeet(t, blocks(4096, block, 0), blocks(4096, block, 1))
		checkMeet(t, blocks(4096, 1, 0), blocks(4096, block, 1))
		checkMeet(t, blocks(4096, block, 0), append(blocks(4096, block, 1), most))
	}
}

// blocks are, of the numbers below many, every second row of so many.
func blocks(many, block, which int) []uint64 {
	var out []uint64
	for n := range many {
		if n/block%2 == which {
			out = append(out, uint64(n))
		}
	}
	return out
}
