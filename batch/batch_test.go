package batch_test

import (
	"math"
	"slices"
	"strings"
	"testing"

	"colander/api"
	"colander/batch"
)

const (
	nameBytes  = "abcdefghijklmnopqrstuvwxyz0123456789_"
	valueBytes = " !#$%&'()*+,-./0123456789:;<=>?@ABCDEFGHIJKLMNOPQRSTUVWXYZ[]^_`abcdefghijklmnopqrstuvwxyz{|}~"
)

// noKinds are numbers of no kind.
var noKinds = []int{math.MinInt, -8, -1, 0, 9, 10, 256 + api.ChAdd, 1<<32 + api.ChAdd, math.MaxInt}

// isName, isValue and mayBe are the chapter's words, one by one.
func isName(s string) bool {
	return len(s) >= 1 && len(s) <= 32 && only(s, nameBytes)
}

func isValue(s string) bool {
	return len(s) <= 40 && only(s, valueBytes)
}

func only(s, of string) bool {
	for i := range len(s) {
		if strings.IndexByte(of, s[i]) < 0 {
			return false
		}
	}
	return true
}

func mayBe(c api.Change) bool {
	switch c.Kind {
	case 1, 2:
		return isName(c.Key) && c.Name == "" && c.Value == "" && c.To == ""
	case 3, 4, 6:
		return isName(c.Key) && isName(c.Name) && c.Value == "" && c.To == ""
	case 5:
		return isName(c.Key) && isName(c.Name) && isValue(c.Value) && c.To == ""
	case 7, 8:
		return isName(c.Key) && isName(c.Name) && c.Value == "" && isName(c.To)
	}
	return false
}

// notNames and notValues are at the edges, and of bytes that others may be tempted to allow.
func notNames() []string {
	return []string{
		"", strings.Repeat("a", 33), strings.Repeat("a", 64), strings.Repeat("a", 1<<20),
		"Ann", "aNn", "anN", " ", " ann", "ann ", "a b", "a-b", "a.b", "ann\n", "\nann", "ann\r", "\x00", "a\x00", "\"ann\"", "@ann", "a\tb",
		"`", "{", "/", ":", "@", "[", "^", "\x7f", "\x80", "\xff", "a\xffb", "é", "añn", "ａ", "٣", "ſ", strings.Repeat("é", 16),
	}
}

func notValues() []string {
	return []string{
		strings.Repeat("a", 41), strings.Repeat(" ", 41), strings.Repeat("~", 80), strings.Repeat("a", 1<<20),
		"\"", "a\"", "\"a", "\"a\"", "\\", "a\\", "\\n", "\n", "a\n", "\na", "\r", "\t", "\x00", "\x1f", "\x7f", "\x80", "\xff", "é", "a b\xa0", "日本",
	}
}

// P9.1
func TestName(t *testing.T) {
	for many := range 40 {
		for b := range len(nameBytes) {
			s := strings.Repeat(nameBytes[b:b+1], many)
			if got, want := batch.Name(s), many >= 1 && many <= 32; got != want {
				t.Errorf("Name(%q), of %d bytes: %t", s, many, got)
			}
		}
	}
	for _, s := range notNames() {
		if batch.Name(s) {
			t.Errorf("Name(%.50q)", s)
		}
	}
	if !batch.Name(nameBytes[:32]) || !batch.Name(nameBytes[5:]) {
		t.Errorf("Name of 32 bytes that may be")
	}
}

// P9.1
func TestValue(t *testing.T) {
	for many := range 50 {
		for b := range len(valueBytes) {
			s := strings.Repeat(valueBytes[b:b+1], many)
			if got, want := batch.Value(s), many <= 40; got != want {
				t.Errorf("Value(%q), of %d bytes: %t", s, many, got)
			}
		}
	}
	for _, s := range notValues() {
		if batch.Value(s) {
			t.Errorf("Value(%.50q)", s)
		}
	}
}

// P9.1: each byte, at each place of texts of each length.
func TestBytes(t *testing.T) {
	if len(nameBytes) != 37 || len(valueBytes) != 93 {
		t.Fatalf("%d, %d bytes that may be", len(nameBytes), len(valueBytes))
	}
	for many := 1; many <= 42; many++ {
		for at := range many {
			for b := range 256 {
				l := []byte(strings.Repeat("a", many))
				l[at] = byte(b)
				s := string(l)
				if got := batch.Name(s); got != isName(s) {
					t.Fatalf("Name(%q): %t", s, got)
				}
				if got := batch.Value(s); got != isValue(s) {
					t.Fatalf("Value(%q): %t", s, got)
				}
			}
		}
	}
}

func checkChange(t *testing.T, c api.Change) {
	t.Helper()
	want := api.OK
	if !mayBe(c) {
		want = api.ErrChange
	}
	if e := batch.Check(c); e != want {
		t.Errorf("Check(%.200q): %d, want %d", []any{c}, e, want)
	}
}

// P9.1: of each kind, and of numbers of none, all that parts may be, together.
func TestCheck(t *testing.T) {
	long, tooLong := strings.Repeat("z", 32), strings.Repeat("z", 33)
	worth, tooMuch := strings.Repeat("~", 40), strings.Repeat("~", 41)
	names := []string{"", "a", "0", "_", "ann", "41", long, tooLong, "A", " ", "a b", "\x80", "\""}
	values := []string{"", "a", "A b", "~", worth, tooMuch, "\"", "\\", "\n", "\x7f", "\xff"}
	may := map[int]int{}
	for _, kind := range append([]int{1, 2, 3, 4, 5, 6, 7, 8}, noKinds...) {
		for _, key := range names {
			for _, name := range names {
				for _, value := range values {
					for _, to := range names {
						c := api.Change{Kind: kind, Key: key, Name: name, Value: value, To: to}
						checkChange(t, c)
						if mayBe(c) {
							may[kind]++
						}
					}
				}
			}
		}
	}
	for kind, want := range []int{0, 6, 6, 36, 36, 180, 36, 216, 216} {
		if may[kind] != want {
			t.Errorf("kind %d: %d that may be, want %d", kind, may[kind], want)
		}
	}
	if e := batch.Check(api.Change{}); e != api.ErrChange {
		t.Errorf("Check of nothing: %d", e)
	}
}

// P9.1: each part is asked for by itself.
func TestCheckParts(t *testing.T) {
	for _, c := range changes() {
		if e := batch.Check(c); e != api.OK {
			t.Errorf("Check(%q): %d", []any{c}, e)
		}
		for _, s := range append(append(notNames(), notValues()...), "a", "ann", "a B", "~", strings.Repeat("0", 40)) {
			for part := range 4 {
				with := c
				*[]*string{&with.Key, &with.Name, &with.Value, &with.To}[part] = s
				checkChange(t, with)
			}
		}
		for _, kind := range append([]int{1, 2, 3, 4, 5, 6, 7, 8}, noKinds...) {
			with := c
			with.Kind = kind
			checkChange(t, with)
		}
	}
}

// P9.1: the chapter's examples.
func TestCheckExamples(t *testing.T) {
	if e := batch.Check(api.Change{Kind: api.ChAdd, Key: "ann", Name: "person"}); e != api.ErrChange {
		t.Errorf("an add with a Name: %d", e)
	}
	if batch.Name("") || !batch.Value("") {
		t.Errorf("of no bytes: %t, %t", batch.Name(""), batch.Value(""))
	}
}

// P9.2
func TestBatch(t *testing.T) {
	for _, l := range [][]api.Change{nil, {}} {
		if n, e := batch.Batch(l); n != 0 || e != api.OK {
			t.Errorf("Batch(%v): %d, %d", l, n, e)
		}
	}
	for many := range 70 {
		l := manyChanges(many)
		want, wantE := many, api.OK
		if many > 64 {
			want, wantE = 0, api.ErrLong
		}
		if n, e := batch.Batch(l); n != want || e != wantE {
			t.Errorf("Batch of %d: %d, %d", many, n, e)
		}
		for at := range many {
			checkFirst(t, l, at)
		}
	}
	if n, e := batch.Batch(make([]api.Change, 1<<16)); n != 0 || e != api.ErrLong {
		t.Errorf("Batch of 2^16: %d, %d", n, e)
	}
}

// checkFirst asks for the number of the first one of which some may not be, and for ErrLong ahead of it.
func checkFirst(t *testing.T, l []api.Change, at int) {
	t.Helper()
	want, wantE := at+1, api.ErrChange
	if len(l) > 64 {
		want, wantE = 0, api.ErrLong
	}
	with := slices.Clone(l)
	for _, from := range []int{len(l) - 1, (at + len(l)) / 2, at} {
		with[from] = api.Change{Kind: from % 9, Key: "Ann"}
	}
	if n, e := batch.Batch(with); n != want || e != wantE {
		t.Errorf("Batch of %d, the first that may not be is %d: %d, %d, want %d, %d", len(l), at+1, n, e, want, wantE)
	}
	if s, e := batch.Text(with...); s != "" || e != wantE {
		t.Errorf("Text of %d, the first that may not be is %d: %.50q, %d, want %d", len(l), at+1, s, e, wantE)
	}
}
