package wide_test

import (
	"math"
	"math/big"
	"slices"
	"testing"

	"colander/api"
	"colander/wide"
)

const maxLo = math.MaxUint64

var (
	zero    = api.Wide{}
	one     = api.Wide{Lo: 1}
	two     = api.Wide{Lo: 2}
	top64   = api.Wide{Lo: maxLo}                // 2^64 - 1
	over64  = api.Wide{Hi: 1}                    // 2^64
	top127  = api.Wide{Hi: 1<<63 - 1, Lo: maxLo} // 2^127 - 1
	over127 = api.Wide{Hi: 1 << 63}              // 2^127
	most    = api.Wide{Hi: maxLo, Lo: maxLo}     // 2^128 - 1
)

// numbers are the edges, those beside them, and a row of others that is always the same.
func numbers() []api.Wide {
	l := []api.Wide{zero, one, two, {Lo: 3}, {Lo: 9}, {Lo: 10}, {Lo: 11}, {Lo: 99}, {Lo: 100},
		{Lo: 1<<32 - 1}, {Lo: 1 << 32}, {Lo: 1<<63 - 1}, {Lo: 1 << 63}, {Lo: maxLo - 1}, top64, over64, {Hi: 1, Lo: 1},
		{Hi: 1, Lo: maxLo}, {Hi: 2}, {Hi: 1<<32 - 1, Lo: maxLo}, {Hi: 1 << 32}, {Hi: maxLo - 1, Lo: maxLo}, {Hi: maxLo},
		top127, over127, {Hi: maxLo, Lo: maxLo - 1}, most}
	x := uint64(88172645463325252)
	next := func() uint64 {
		x ^= x << 13
		x ^= x >> 7
		x ^= x << 17
		return x
	}
	for i := range 40 {
		l = append(l, api.Wide{Hi: next() >> (i * 2 % 64), Lo: next()}, api.Wide{Lo: next() >> (i % 64)})
	}
	return l
}

func toBig(a api.Wide) *big.Int {
	b := new(big.Int).SetUint64(a.Hi)
	return b.Lsh(b, 64).Add(b, new(big.Int).SetUint64(a.Lo))
}

// fromBig is what a call must answer for that number.
func fromBig(b *big.Int) (api.Wide, api.Errno) {
	if b.Sign() < 0 || b.BitLen() > 128 {
		return zero, api.ErrOverflow
	}
	lo := new(big.Int).And(b, new(big.Int).SetUint64(maxLo))
	return api.Wide{Hi: new(big.Int).Rsh(b, 64).Uint64(), Lo: lo.Uint64()}, api.OK
}

type answer struct {
	n api.Wide
	e api.Errno
}

func got(n api.Wide, e api.Errno) answer {
	return answer{n, e}
}

func check(t *testing.T, what string, is, want answer) {
	t.Helper()
	if is != want {
		t.Errorf("%s: %v, want %v", what, is, want)
	}
}

var tooGreat = answer{e: api.ErrOverflow}
var wrong = answer{e: api.ErrArg}

// P1.1
func TestOf(t *testing.T) {
	for _, n := range []uint64{0, 1, 10, 1 << 63, maxLo} {
		if a := wide.Of(n); a != (api.Wide{Lo: n}) {
			t.Errorf("Of(%d): %v", n, a)
		}
	}
}

// P1.1
func TestCompare(t *testing.T) {
	for _, a := range numbers() {
		for _, b := range numbers() {
			if c, want := wide.Compare(a, b), toBig(a).Cmp(toBig(b)); c != want {
				t.Errorf("Compare(%v, %v): %d, want %d", a, b, c, want)
			}
		}
	}
}

// P1.1: the upper half tells, whatever the lower halves say.
func TestCompareHalves(t *testing.T) {
	cases := []struct {
		a, b api.Wide
		want int
	}{
		{zero, zero, 0}, {most, most, 0}, {top64, over64, -1}, {over64, top64, 1},
		{api.Wide{Hi: 2}, api.Wide{Hi: 1, Lo: maxLo}, 1}, {api.Wide{Hi: 1, Lo: 1}, over64, 1}, {zero, most, -1},
	}
	for _, c := range cases {
		if is := wide.Compare(c.a, c.b); is != c.want {
			t.Errorf("Compare(%v, %v): %d, want %d", c.a, c.b, is, c.want)
		}
	}
}

// P1.2
func TestAddSubMulEdges(t *testing.T) {
	check(t, "2^64 - 1 and 1", got(wide.Add(top64, one)), answer{n: over64})
	check(t, "0 and 0", got(wide.Add(zero, zero)), answer{})
	check(t, "just 2^128 - 1", got(wide.Add(api.Wide{Hi: maxLo}, top64)), answer{n: most})
	check(t, "just 2^128, of halves", got(wide.Add(over127, over127)), tooGreat)
	check(t, "just 2^128, by a carry", got(wide.Add(api.Wide{Hi: maxLo, Lo: 1}, top64)), tooGreat)
	check(t, "just 2^128", got(wide.Add(most, one)), tooGreat)
	check(t, "all and all", got(wide.Add(most, most)), tooGreat)

	check(t, "0 less 1", got(wide.Sub(zero, one)), tooGreat)
	check(t, "0 less all", got(wide.Sub(zero, most)), tooGreat)
	check(t, "just below 0", got(wide.Sub(top64, over64)), tooGreat)
	check(t, "just below 0, by a borrow", got(wide.Sub(over64, api.Wide{Hi: 1, Lo: 1})), tooGreat)
	check(t, "just 0", got(wide.Sub(most, most)), answer{})
	check(t, "2^64 less 1", got(wide.Sub(over64, one)), answer{n: top64})

	check(t, "2^64 times 2^63", got(wide.Mul(over64, wide.Of(1<<63))), answer{n: over127})
	check(t, "just 2^128, of upper halves", got(wide.Mul(over64, over64)), tooGreat)
	check(t, "just 2^128", got(wide.Mul(over127, two)), tooGreat)
	check(t, "just 2^128, the other way", got(wide.Mul(two, over127)), tooGreat)
	check(t, "just 2^128 - 1", got(wide.Mul(top64, api.Wide{Hi: 1, Lo: 1})), answer{n: most})
	check(t, "just 2^128 - 1, the other way", got(wide.Mul(api.Wide{Hi: 1, Lo: 1}, top64)), answer{n: most})
	check(t, "the halves' sum", got(wide.Mul(api.Wide{Hi: 1, Lo: maxLo}, top64)), tooGreat)
	check(t, "all times 0", got(wide.Mul(most, zero)), answer{})
	check(t, "all times 1", got(wide.Mul(one, most)), answer{n: most})
}

// P1.2: whatever two numbers are handed in.
func TestAddSubMulAll(t *testing.T) {
	for _, a := range numbers() {
		for _, b := range numbers() {
			x, y := toBig(a), toBig(b)
			check(t, "Add", got(wide.Add(a, b)), got(fromBig(new(big.Int).Add(x, y))))
			check(t, "Sum", got(wide.Sum(a, b)), got(fromBig(new(big.Int).Add(x, y))))
			check(t, "Sub", got(wide.Sub(a, b)), got(fromBig(new(big.Int).Sub(x, y))))
			check(t, "Mul", got(wide.Mul(a, b)), got(fromBig(new(big.Int).Mul(x, y))))
		}
	}
}

// P1.2
func TestSum(t *testing.T) {
	check(t, "none", got(wide.Sum()), answer{})
	check(t, "an empty list", got(wide.Sum([]api.Wide{}...)), answer{})
	check(t, "one", got(wide.Sum(most)), answer{n: most})
	check(t, "three", got(wide.Sum(one, top64, over64)), answer{n: api.Wide{Hi: 2}})
	check(t, "just 2^128 - 1", got(wide.Sum(over127, zero, top127, zero)), answer{n: most})
	check(t, "just 2^128", got(wide.Sum(over127, top127, one)), tooGreat)
	check(t, "too great, then small ones", got(wide.Sum(most, one, zero, one)), tooGreat)
	many := make([]api.Wide, 1000)
	for i := range many {
		many[i] = top64
	}
	check(t, "many", got(wide.Sum(many...)), answer{n: api.Wide{Hi: 999, Lo: maxLo - 999}})
}

// R3: what is handed in stays as it is, behind the list's end, too.
func TestSumKeepsList(t *testing.T) {
	whole := []api.Wide{one, two, over64, most, one}
	before := slices.Clone(whole)
	check(t, "a part", got(wide.Sum(whole[:3]...)), answer{n: api.Wide{Hi: 1, Lo: 3}})
	if !slices.Equal(whole, before) {
		t.Errorf("the list became %v", whole)
	}
}

// P1.3
func TestDiv(t *testing.T) {
	for _, a := range numbers() {
		if q, left, e := wide.Div(a, 0); q != zero || left != 0 || e != api.ErrArg {
			t.Errorf("Div(%v, 0): %v %d %d", a, q, left, e)
		}
		for _, b := range numbers() {
			if b.Lo == 0 {
				continue
			}
			q, left, e := wide.Div(a, b.Lo)
			bq, bleft := new(big.Int).QuoRem(toBig(a), toBig(wide.Of(b.Lo)), new(big.Int))
			if e != api.OK || toBig(q).Cmp(bq) != 0 || left != bleft.Uint64() {
				t.Errorf("Div(%v, %d): %v %d %d, want %v %v", a, b.Lo, q, left, e, bq, bleft)
			}
		}
	}
}

// P1.3
func TestDivEdges(t *testing.T) {
	cases := []struct {
		a    api.Wide
		by   uint64
		q    api.Wide
		left uint64
	}{
		{over64, 3, wide.Of(6148914691236517205), 1},
		{zero, 1, zero, 0}, {zero, maxLo, zero, 0}, {most, 1, most, 0}, {over64, 1, over64, 0},
		{most, maxLo, api.Wide{Hi: 1, Lo: 1}, 0}, {top64, maxLo, one, 0}, {over64, maxLo, one, 1}, {wide.Of(6), 7, zero, 6},
	}
	for _, c := range cases {
		if q, left, e := wide.Div(c.a, c.by); q != c.q || left != c.left || e != api.OK {
			t.Errorf("Div(%v, %d): %v %d %d", c.a, c.by, q, left, e)
		}
	}
}

// P1.4
func TestPowerEdges(t *testing.T) {
	check(t, "2, 127 times", got(wide.Power(two, 127)), answer{n: over127})
	check(t, "2, 128 times", got(wide.Power(two, 128)), tooGreat)
	check(t, "0, no times", got(wide.Power(zero, 0)), answer{n: one})
	check(t, "0, once", got(wide.Power(zero, 1)), answer{})
	check(t, "all, no times", got(wide.Power(most, 0)), answer{n: one})
	check(t, "all, once: just 2^128 - 1", got(wide.Power(most, 1)), answer{n: most})
	check(t, "all, twice", got(wide.Power(most, 2)), tooGreat)
	check(t, "2^64 - 1, twice", got(wide.Power(top64, 2)), answer{n: api.Wide{Hi: maxLo - 1, Lo: 1}})
	check(t, "2^64, twice: just 2^128", got(wide.Power(over64, 2)), tooGreat)
	check(t, "16, 32 times: just 2^128", got(wide.Power(wide.Of(16), 32)), tooGreat)
	check(t, "16, 31 times", got(wide.Power(wide.Of(16), 31)), answer{n: api.Wide{Hi: 1 << 60}})
	check(t, "below 0", got(wide.Power(two, -1)), wrong)
	check(t, "far below 0", got(wide.Power(most, math.MinInt)), wrong)
	check(t, "0, below 0", got(wide.Power(zero, -2)), wrong)
}

// P1.4, R1: a great n ends, too.
func TestPowerGreat(t *testing.T) {
	for _, n := range []int{math.MaxInt, math.MaxInt - 1, 1 << 62} {
		check(t, "0", got(wide.Power(zero, n)), answer{})
		check(t, "1", got(wide.Power(one, n)), answer{n: one})
		check(t, "2", got(wide.Power(two, n)), tooGreat)
		check(t, "2^128 - 1", got(wide.Power(most, n)), tooGreat)
	}
}

// P1.4: against multiplying, one by one.
func TestPowerAll(t *testing.T) {
	l := numbers()
	for i := range uint64(40) {
		l = append(l, wide.Of(i))
	}
	for _, a := range l {
		p := big.NewInt(1)
		for n := range 131 {
			check(t, "Power", got(wide.Power(a, n)), got(fromBig(p)))
			p.Mul(p, toBig(a))
		}
	}
}
