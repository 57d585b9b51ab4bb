package table_test

import (
	"fmt"
	"hash/fnv"
	"math"
	"slices"
	"strconv"
	"strings"
	"testing"

	"colander/api"
	"colander/table"
)

// named is so many texts, no two alike, the first one without bytes.
func named(many int) []string {
	out := make([]string, many)
	for i := range out {
		if i > 0 {
			out[i] = "text " + strconv.Itoa(i)
		}
	}
	return out
}

// homed is so many texts whose first slot, of so many slots, is that one.
func homed(many, slots, first int) []string {
	var out []string
	for i := 0; len(out) < many; i++ {
		if s := "h" + strconv.Itoa(i); int(table.Hash(s)%uint64(slots)) == first {
			out = append(out, s)
		}
	}
	return out
}

// laid is texts in so many slots, put there in that order of their numbers, or, if there is none, as they stand.
func laid(slots int, texts []string, order ...int) api.Table {
	t := api.Table{Texts: slices.Clone(texts), Slots: make([]int, slots)}
	if order == nil {
		for n := range texts {
			order = append(order, n)
		}
	}
	for _, n := range order {
		at := int(table.Hash(texts[n]) % uint64(slots))
		for t.Slots[at] != 0 {
			at = (at + 1) % slots
		}
		t.Slots[at] = n + 1
	}
	return t
}

// mayBe is the chapter's words, one by one.
func mayBe(t api.Table) bool {
	many := len(t.Slots)
	power := false
	for p := 8; p <= many; p *= 2 {
		power = power || p == many
	}
	if len(t.Texts) > 1024 || !power || many < 2*len(t.Texts) {
		return false
	}
	for _, n := range t.Slots {
		if n < 0 || n > len(t.Texts) {
			return false
		}
	}
	for n, s := range t.Texts {
		if slices.Index(t.Texts, s) != n || len(places(t.Slots, n+1)) != 1 {
			return false
		}
		for at := int(table.Hash(s) % uint64(many)); t.Slots[at] != n+1; at = (at + 1) % many {
			if t.Slots[at] == 0 {
				return false
			}
		}
	}
	return true
}

func places(l []int, n int) []int {
	var out []int
	for i, x := range l {
		if x == n {
			out = append(out, i)
		}
	}
	return out
}

// tables may be: some at the edges, some that no Put of this package makes.
func tables() map[string]api.Table {
	full, ahead, behind := named(api.MaxTexts), homed(4, 8, 6), homed(3, 16, 15)
	mixed := append(homed(2, 16, 14), homed(3, 16, 15)...)
	return map[string]api.Table{
		"new":                         table.New(),
		"no texts, many slots":        {Slots: make([]int, 1<<12)},
		"no texts, but an empty list": {Texts: []string{}, Slots: make([]int, 8)},
		"no bytes":                    laid(8, []string{""}),
		"one":                         laid(8, []string{"a"}),
		"just half":                   laid(8, named(4)),
		"more slots than are asked":   laid(1<<14, named(5)),
		"all of one slot, round":      laid(8, ahead),
		"turned, round":               laid(8, ahead, 3, 2, 1, 0),
		"of the last slot, turned":    laid(16, behind, 2, 0, 1),
		"of two slots, across":        laid(16, mixed, 4, 1, 3, 0, 2),
		"bytes of all kinds":          laid(16, []string{"\x00", "\xff", "\xff\x00", "ä", "\n", "\xc3\x28", strings.Repeat("x", 100000)}),
		"one less than all":           laid(2048, full[1:]),
		"all":                         laid(2048, full),
		"all, in more slots":          laid(1<<13, full),
		"all, turned":                 laid(2048, full, turned(len(full))...),
	}
}

func turned(many int) []int {
	var out []int
	for n := many - 1; n >= 0; n-- {
		out = append(out, n)
	}
	return out
}

// noTables may not be, for each reason one at least.
func noTables() map[string]api.Table {
	one, four, full := laid(8, []string{"a"}), laid(8, homed(4, 8, 6)), laid(2048, named(api.MaxTexts))
	at := slices.Index(one.Slots, 1)
	return map[string]api.Table{
		"nothing":                     {},
		"a text, no slots":            {Texts: []string{"a"}},
		"1 slot":                      {Slots: make([]int, 1)},
		"4 slots":                     {Slots: make([]int, 4)},
		"4 slots, a text":             laid(4, []string{"a"}),
		"7 slots":                     {Slots: make([]int, 7)},
		"9 slots":                     {Slots: make([]int, 9)},
		"12 slots":                    laid(12, []string{"a"}),
		"24 slots":                    laid(24, named(9)),
		"one less than a power":       laid(1<<10-1, named(9)),
		"5 texts, 8 slots":            laid(8, named(5)),
		"8 texts, 8 slots":            laid(8, named(8)),
		"9 texts, 16 slots":           laid(16, named(9)),
		"1024 texts, 1024 slots":      laid(1024, named(1024)),
		"one text too many":           laid(4096, named(api.MaxTexts+1)),
		"many texts too many":         laid(1<<13, named(3000)),
		"two alike, none between":     laid(8, []string{"a", "a"}),
		"two alike, turned":           laid(8, []string{"a", "a"}, 1, 0),
		"two alike, far apart":        laid(2048, append(named(api.MaxTexts-1), "text 1")),
		"two alike without bytes":     laid(16, []string{"", "b", ""}),
		"two alike, one of them laid": {Texts: []string{"a", "a"}, Slots: one.Slots},
		"a number below 0":            changed(one, (at+3)%8, -1),
		"the least number":            changed(one, (at+3)%8, math.MinInt),
		"in the text's place below 0": changed(one, at, -1),
		"a number of no text":         changed(one, (at+3)%8, 2),
		"the greatest number":         changed(one, (at+3)%8, math.MaxInt),
		"in the text's place another": changed(one, at, 2),
		"a number of no text, ahead":  changed(laid(8, nil), 0, 1),
		"a number twice, next":        changed(one, (at+1)%8, 1),
		"a number twice, far":         changed(one, (at+4)%8, 1),
		"a number is not there":       changed(one, at, 0),
		"the last is not there":       changed(four, 1, 0),
		"one for another":             changed(four, 1, 1),
		"free ahead":                  moved(one, at, (at+1)%8),
		"free ahead, far":             moved(one, at, (at+7)%8),
		"free ahead, in the middle":   moved(four, 7, 2),
		"free ahead, at the first":    moved(four, 6, 2),
		"free behind the last":        moved(four, 0, 2),
		"all, one not there":          changed(full, slices.Index(full.Slots, 1024), 0),
		"all, one more":               changed(full, slices.Index(full.Slots, 0), 7),
		"all, two changed":            swapped(full),
	}
}

func changed(t api.Table, at, n int) api.Table {
	t.Slots = slices.Clone(t.Slots)
	t.Slots[at] = n
	return t
}

func moved(t api.Table, from, to int) api.Table {
	return changed(changed(t, to, t.Slots[from]), from, 0)
}

// swapped has two texts' numbers change places, the first one of which stands behind a free slot then.
func swapped(t api.Table) api.Table {
	for at, n := range t.Slots {
		other := (at + 1024) % len(t.Slots)
		if out := changed(changed(t, at, t.Slots[other]), other, n); n > 0 && t.Slots[other] > 0 && !mayBe(out) {
			return out
		}
	}
	return api.Table{}
}

func same(a, b api.Table) bool {
	return slices.Equal(a.Texts, b.Texts) && slices.Equal(a.Slots, b.Slots)
}

// told is the beginning of a table, as a fault is told.
func told(t api.Table) string {
	return fmt.Sprintf("%.9q (%d), slots %d (%d)", t.Texts[:min(9, len(t.Texts))], len(t.Texts), t.Slots[:min(16, len(t.Slots))], len(t.Slots))
}

func none(t api.Table) bool {
	return t.Texts == nil && t.Slots == nil
}

// P5.1: the example, and others.
func TestHashExamples(t *testing.T) {
	for s, want := range map[string]uint64{
		"": 0xcbf29ce484222325, "a": 0xaf63dc4c8601ec8c, "b": 0xaf63df4c8601f1a5, "foobar": 0x85944171f73967e8, "\x00": 0xaf63bd4c8601b7df,
	} {
		if h := table.Hash(s); h != want {
			t.Errorf("Hash(%q): %x, want %x", s, h, want)
		}
	}
}

// P5.1: of all bytes, ahead and behind, and of long texts; a byte is a byte, whatever rune it is part of.
func TestHash(t *testing.T) {
	texts := []string{"ä", "\u20ac", "\U0001f600", "\xc3", "\xff\xfe", strings.Repeat("long", 30000), strings.Repeat("\x00", 1000)}
	for n := range 256 {
		b := string([]byte{byte(n)})
		texts = append(texts, b, "x"+b, b+"x", b+b)
	}
	for _, s := range texts {
		h := fnv.New64a()
		h.Write([]byte(s))
		if is, want := table.Hash(s), h.Sum64(); is != want {
			t.Errorf("Hash of %d bytes, %q: %x, want %x", len(s), s[:min(9, len(s))], is, want)
		}
	}
}

// P5.1: whatever becomes of one new table, the next one is new.
func TestNew(t *testing.T) {
	for range 2 {
		n := table.New()
		if len(n.Texts) != 0 || !slices.Equal(n.Slots, make([]int, 8)) || table.Check(n) != api.OK {
			t.Fatalf("New: %s", told(n))
		}
		for i := range n.Slots {
			n.Slots[i] = 5
		}
		_ = append(n.Texts[:0], "a")
	}
}

// P5.1
func TestCheck(t *testing.T) {
	for what, x := range tables() {
		if e := table.Check(x); e != api.OK || !mayBe(x) {
			t.Errorf("Check, %s: %d", what, e)
		}
	}
	for why, x := range noTables() {
		if e := table.Check(x); e != api.ErrTable || mayBe(x) {
			t.Errorf("Check, %s: %d", why, e)
		}
	}
}

// P5.1: of few texts in 8 slots, all ways to fill them with two numbers and what is none.
func TestCheckAll(t *testing.T) {
	one := homed(1, 8, 7)
	two := append(homed(1, 8, 7), homed(1, 8, 0)...)
	for _, texts := range [][]string{nil, one, two, homed(2, 8, 7), {one[0], one[0]}} {
		may := 0
		for way := range 4 * 4 * 4 * 4 * 4 * 4 {
			x := api.Table{Texts: texts, Slots: make([]int, 8)}
			for i := range 6 {
				x.Slots[(i+5)%8] = way>>(2*i)%4 - 1
			}
			want := api.ErrTable
			if mayBe(x) {
				want = api.OK
				may++
			}
			if e := table.Check(x); e != want {
				t.Errorf("Check(%s): %d, want %d", told(x), e, want)
			}
		}
		if may == 0 && !(len(texts) == 2 && texts[0] == texts[1]) {
			t.Errorf("of %q no way may be", texts)
		}
	}
}

// P5.2
func TestFind(t *testing.T) {
	for what, x := range tables() {
		for n, s := range x.Texts {
			if at, ok := table.Find(x, s); at != n || !ok {
				t.Errorf("Find(%s, %q): %d %t, want %d", what, s[:min(9, len(s))], at, ok, n)
			}
		}
		others := append(homed(9, len(x.Slots), len(x.Slots)-1), "none", "text 01", "text", "\x00\x00", "A", " ")
		for i := range 8 {
			others = append(others, homed(6, 8, i)...)
		}
		for _, s := range append(others, "") {
			if slices.Contains(x.Texts, s) {
				continue
			}
			if at, ok := table.Find(x, s); at != 0 || ok {
				t.Errorf("Find(%s, %q): %d %t, want none", what, s, at, ok)
			}
		}
	}
}

// P5.2
func TestText(t *testing.T) {
	for what, x := range tables() {
		for n, want := range x.Texts {
			if s, e := table.Text(x, n); s != want || e != api.OK {
				t.Errorf("Text(%s, %d): %q, %d, want %q", what, n, s[:min(9, len(s))], e, want)
			}
		}
		for _, n := range []int{math.MinInt, -2, -1, len(x.Texts), len(x.Texts) + 1, len(x.Slots), api.MaxTexts, math.MaxInt} {
			if s, e := table.Text(x, n); s != "" || e != api.ErrNone {
				t.Errorf("Text(%s, %d): %q, %d, want none", what, n, s, e)
			}
		}
	}
}

// P5.1 to P5.4: of what may not be nothing is told, ahead of all else.
func TestNoTables(t *testing.T) {
	for why, x := range noTables() {
		for _, s := range append(slices.Clone(x.Texts[:min(3, len(x.Texts))]), "", "a", "none", "text 1023") {
			if n, ok := table.Find(x, s); n != 0 || ok {
				t.Errorf("Find, %s: %d %t", why, n, ok)
			}
			if y, n, e := table.Put(x, s); !none(y) || n != 0 || e != api.ErrTable {
				t.Errorf("Put, %s: %s, %d, %d", why, told(y), n, e)
			}
		}
		for _, n := range []int{-1, 0, 1, len(x.Texts), math.MaxInt} {
			if s, e := table.Text(x, n); s != "" || e != api.ErrTable {
				t.Errorf("Text, %s: %q, %d", why, s, e)
			}
		}
		for _, l := range [][]string{nil, {}, {"a"}, {"b", "c"}, named(2000)} {
			if y, numbers, e := table.All(x, l...); !none(y) || numbers != nil || e != api.ErrTable {
				t.Errorf("All, %s: %s, %v, %d", why, told(y), numbers, e)
			}
		}
	}
}
