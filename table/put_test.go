package table_test

import (
	"slices"
	"strings"
	"testing"

	"colander/api"
	"colander/table"
)

// P5.4: the chapter's examples.
func TestExamples(t *testing.T) {
	x, l, e := table.All(table.New(), "b", "a", "b")
	if !slices.Equal(l, []int{0, 1, 0}) || e != api.OK || !slices.Equal(x.Texts, []string{"b", "a"}) {
		t.Errorf("All: %s, %v, %d", told(x), l, e)
	}
	if n, ok := table.Find(x, "a"); n != 1 || !ok {
		t.Errorf("Find a: %d %t", n, ok)
	}
	if n, ok := table.Find(x, "c"); n != 0 || ok {
		t.Errorf("Find c: %d %t", n, ok)
	}
	if s, e := table.Text(x, 1); s != "a" || e != api.OK {
		t.Errorf("Text 1: %q, %d", s, e)
	}
	if s, e := table.Text(x, 2); s != "" || e != api.ErrNone {
		t.Errorf("Text 2: %q, %d", s, e)
	}
}

// checkPut holds what Put comes to against the promise, and hands it on.
func checkPut(t *testing.T, what string, x api.Table, s string) api.Table {
	t.Helper()
	y, n, e := table.Put(x, s)
	at := slices.Index(x.Texts, s)
	switch {
	case at >= 0:
		if !same(x, y) || n != at || e != api.OK {
			t.Errorf("%s, it has %.9q: %d, %d, want %d and the table as it is", what, s, n, e, at)
		}
	case len(x.Texts) == api.MaxTexts:
		if !none(y) || n != 0 || e != api.ErrFull {
			t.Errorf("%s, full: %d texts, %d, %d", what, len(y.Texts), n, e)
		}
	default:
		if !mayBe(y) || !slices.Equal(y.Texts, append(slices.Clone(x.Texts), s)) || n != len(x.Texts) || e != api.OK {
			t.Errorf("%s, %.9q put: %s, %d, %d", what, s, told(y), n, e)
		}
	}
	return y
}

// P5.3
func TestPut(t *testing.T) {
	for what, x := range tables() {
		for _, s := range x.Texts {
			checkPut(t, what, x, s)
		}
		for _, s := range []string{"", "a", "none", "\x00", "\xff", strings.Repeat("y", 100000)} {
			checkPut(t, what, x, s)
		}
	}
}

// P5.3: from the first text on to one too many, with those that it has between.
func TestPutMany(t *testing.T) {
	x := table.New()
	l := named(api.MaxTexts + 2)
	for n, s := range l[:api.MaxTexts] {
		x = checkPut(t, "many", x, s)
		if n%101 == 0 {
			for _, again := range x.Texts {
				checkPut(t, "many, again", x, again)
			}
		}
	}
	for _, s := range l[api.MaxTexts:] {
		checkPut(t, "one too many", x, s)
	}
	for _, s := range x.Texts {
		checkPut(t, "full, again", x, s)
	}
}

// P5.3: texts that all begin at one slot, the last one of so many as there will be, too.
func TestPutAlike(t *testing.T) {
	for _, first := range []int{0, 1, 7, 63} {
		x := table.New()
		for _, s := range homed(40, 64, first) {
			x = checkPut(t, "alike", x, s)
		}
	}
}

// P5.4: Put of each, one behind the other.
func TestAll(t *testing.T) {
	lists := [][]string{nil, {}, {""}, {"a"}, {"a", "a", "a"}, {"none", "b", "", "none", "c", "b"}, append(named(60), named(70)...), homed(30, 32, 31)}
	for what, x := range tables() {
		for _, l := range append(lists, x.Texts) {
			want, wantNumbers, wantE := x, []int{}, api.OK
			for _, s := range l {
				y, n, e := table.Put(want, s)
				if e != api.OK {
					want, wantNumbers, wantE = api.Table{}, nil, e
					break
				}
				want, wantNumbers = y, append(wantNumbers, n)
			}
			y, numbers, e := table.All(x, l...)
			if e != wantE || !slices.Equal(numbers, wantNumbers) || !slices.Equal(y.Texts, want.Texts) || e != api.OK && !none(y) {
				t.Errorf("All(%s, %d texts): %d texts, %v, %d, want %d texts, %v, %d", what, len(l), len(y.Texts), numbers, e, len(want.Texts), wantNumbers, wantE)
			}
			if e == api.OK && !mayBe(y) {
				t.Errorf("All(%s, %d texts): what may not be", what, len(l))
			}
		}
	}
}

// P5.4: up to the last text that has room, and one more; those that it has need none.
func TestAllFull(t *testing.T) {
	l := named(api.MaxTexts + 1)
	fit := append(slices.Clone(l[:api.MaxTexts]), l[:api.MaxTexts]...)
	x, numbers, e := table.All(table.New(), fit...)
	if e != api.OK || !mayBe(x) || !slices.Equal(x.Texts, l[:api.MaxTexts]) || len(numbers) != len(fit) {
		t.Fatalf("just full: %d texts, %d numbers, %d", len(x.Texts), len(numbers), e)
	}
	for i, n := range numbers {
		if n != i%api.MaxTexts {
			t.Errorf("the number of %d: %d", i, n)
		}
	}
	for what, more := range map[string][]string{
		"one too many":           l,
		"one too many, between":  append(slices.Clone(l), "text 3"),
		"far too many":           named(5000),
		"again, then one more":   append(slices.Clone(fit), "none"),
		"one too many, at first": {"none"},
	} {
		from := table.New()
		if len(more) == 1 {
			from = x
		}
		if y, numbers, e := table.All(from, more...); !none(y) || numbers != nil || e != api.ErrFull {
			t.Errorf("%s: %d texts, %d numbers, %d", what, len(y.Texts), len(numbers), e)
		}
	}
	if y, numbers, e := table.All(x, "text 9", "", "text 1023"); !same(x, y) || !slices.Equal(numbers, []int{9, 0, 1023}) || e != api.OK {
		t.Errorf("full, those that it has: %d texts, %v, %d", len(y.Texts), numbers, e)
	}
}

// P5.4: of no texts, or those that it has, the table is as it is.
func TestAllNone(t *testing.T) {
	for what, x := range tables() {
		for _, l := range [][]string{nil, {}, x.Texts} {
			if y, numbers, e := table.All(x, l...); !same(x, y) || len(numbers) != len(l) || e != api.OK {
				t.Errorf("All(%s, %d that it has): %s, %v, %d", what, len(l), told(y), numbers, e)
			}
		}
	}
}
