package wide_test

import (
	"math/big"
	"slices"
	"strings"
	"testing"

	"colander/api"
	"colander/wide"
)

const (
	mostText = "340282366920938463463374607431768211455" // 2^128 - 1
	overText = "340282366920938463463374607431768211456"
)

// P1.5
func TestTextEdges(t *testing.T) {
	cases := []struct {
		a    api.Wide
		want string
	}{
		{zero, "0"}, {one, "1"}, {wide.Of(9), "9"}, {wide.Of(10), "10"}, {wide.Of(1000), "1000"},
		{top64, "18446744073709551615"}, {over64, "18446744073709551616"}, {most, mostText},
		// What is left ahead of the last digits is 2^64 itself, whose lower half is 0.
		{api.Wide{Hi: 10}, "184467440737095516160"}, {api.Wide{Hi: 100, Lo: 7}, "1844674407370955161607"},
	}
	for _, c := range cases {
		if s := wide.Text(c.a); s != c.want {
			t.Errorf("Text(%v): %s, want %s", c.a, s, c.want)
		}
		check(t, "Read of "+c.want, got(wide.Read(c.want)), answer{n: c.a})
	}
}

// P1.5, P1.6: Read of Text is the number; of the powers of 10, too, and of those beside them.
func TestReadOfText(t *testing.T) {
	l := numbers()
	for p, e := one, api.OK; e == api.OK; p, e = wide.Mul(p, wide.Of(10)) {
		less, _ := wide.Sub(p, one)
		more, _ := wide.Add(p, one)
		l = append(l, less, p, more)
	}
	if len(l) != len(numbers())+3*39 {
		t.Errorf("%d powers of 10", (len(l)-len(numbers()))/3)
	}
	for _, a := range l {
		s := wide.Text(a)
		if want := toBig(a).String(); s != want {
			t.Errorf("Text(%v): %s, want %s", a, s, want)
		}
		check(t, "Read of "+s, got(wide.Read(s)), answer{n: a})
	}
}

// P1.5: what is no row of digits.
func TestReadWrong(t *testing.T) {
	long := strings.Repeat("9", 100000)
	cases := []string{
		"", " ", "01", "00", "000", "007", "0" + mostText, "0" + long, strings.Repeat("0", 100000),
		"-", "-1", "-0", "+1", "+", " 1", "1 ", "1\n", "1_000", "1,000", "1.0", "1e3", "0x10", "x", "a", "/", ":", "1/", "1:", "\x00", "1\x00",
		"\xff", "1\xff", "\xb1", "1\xb2\xb3", "\u0661", "1\u0662", "\uff11", "\u00b2", "\U0001d7ce", "\ufffd",
	}
	for _, s := range cases {
		check(t, "Read of a wrong text", got(wide.Read(s)), wrong)
	}
	// What is no row of digits goes ahead of what is too great.
	for _, s := range []string{long + "x", "x" + long, long + " ", overText + "a", overText + "\xff", "-" + overText} {
		check(t, "Read of a wrong and long text", got(wide.Read(s)), wrong)
	}
}

// P1.5
func TestReadTooGreat(t *testing.T) {
	cases := []string{
		overText, "340282366920938463463374607431768211459", "340282366920938463463374607431768211460",
		"999999999999999999999999999999999999999", "1" + strings.Repeat("0", 39), "3402823669209384634633746074317682114550",
		strings.Repeat("9", 40), strings.Repeat("9", 100000), "1" + strings.Repeat("0", 100000),
	}
	for _, s := range cases {
		check(t, "Read of too great a number", got(wide.Read(s)), tooGreat)
	}
}

// P1.5: each number at either side of the bound, and its digits, one by one less.
func TestReadAroundBound(t *testing.T) {
	bound, _ := new(big.Int).SetString(overText, 10)
	for i := int64(-300); i <= 300; i++ {
		b := new(big.Int).Add(bound, big.NewInt(i))
		check(t, "Read of "+b.String(), got(wide.Read(b.String())), got(fromBig(b)))
	}
	for n := range mostText {
		if n == 0 {
			continue
		}
		b, _ := new(big.Int).SetString(mostText[:n], 10)
		check(t, "Read of "+mostText[:n], got(wide.Read(mostText[:n])), got(fromBig(b)))
	}
}

// P1.6: what is added is taken away again; what is divided is multiplied back.
func TestBackAgain(t *testing.T) {
	for _, a := range numbers() {
		for _, b := range numbers() {
			if s, e := wide.Add(a, b); e == api.OK {
				check(t, "Sub of Add", got(wide.Sub(s, b)), answer{n: a})
				check(t, "Sub of Add, the other way", got(wide.Sub(s, a)), answer{n: b})
			}
			if q, left, e := wide.Div(a, b.Lo); e == api.OK {
				if left >= b.Lo {
					t.Errorf("Div(%v, %d) leaves %d", a, b.Lo, left)
				}
				p, e := wide.Mul(q, wide.Of(b.Lo))
				if e != api.OK {
					t.Errorf("Mul(%v, %d): %d", q, b.Lo, e)
				}
				check(t, "Add of Mul of Div", got(wide.Add(p, wide.Of(left))), answer{n: a})
			}
		}
	}
}

// P1.6: sums hang on no order.
func TestSumOrder(t *testing.T) {
	lists := [][]api.Wide{
		{over127, top127, one, zero}, {over127, top127, zero, zero}, {top64, one, over64, two}, {most, zero, zero, one},
		{{Hi: maxLo}, top64, one, zero},
	}
	for _, l := range lists {
		want := got(wide.Sum(l...))
		eachOrder(l, 0, func() { check(t, "Sum in another order", got(wide.Sum(l...)), want) })
	}
	l := numbers()
	for i := range l {
		l[i].Hi >>= 8
	}
	want := got(wide.Sum(l...))
	if want.e != api.OK {
		t.Errorf("Sum of many: %d", want.e)
	}
	slices.Reverse(l)
	check(t, "Sum, from the end on", got(wide.Sum(l...)), want)
	slices.SortFunc(l, wide.Compare)
	check(t, "Sum, rising", got(wide.Sum(l...)), want)
}

func eachOrder(l []api.Wide, from int, do func()) {
	if from == len(l) {
		do()
		return
	}
	for i := from; i < len(l); i++ {
		l[from], l[i] = l[i], l[from]
		eachOrder(l, from+1, do)
		l[from], l[i] = l[i], l[from]
	}
}

// R1: no argument makes a call panic; with an error the rest is zero.
func FuzzRead(f *testing.F) {
	for _, s := range []string{"", "0", "01", mostText, overText, "1\xff"} {
		f.Add(s)
	}
	f.Fuzz(func(t *testing.T, s string) {
		n, e := wide.Read(s)
		if e == api.OK && wide.Text(n) != s {
			t.Errorf("Read(%q): %v", s, n)
		}
		if e != api.OK && n != zero {
			t.Errorf("Read(%q): %v beside %d", s, n, e)
		}
	})
}
