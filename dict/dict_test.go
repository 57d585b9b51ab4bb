package dict_test

import (
	"fmt"
	"math"
	"slices"
	"strconv"
	"strings"
	"testing"

	"colander/api"
	"colander/dict"
	"colander/table"
)

const (
	keyBytes   = "abcdefghijklmnopqrstuvwxyz0123456789_"
	valueBytes = " !#$%&'()*+,-./0123456789:;<=>?@ABCDEFGHIJKLMNOPQRSTUVWXYZ[]^_`abcdefghijklmnopqrstuvwxyz{|}~"
)

// noKinds are numbers of no kind.
var noKinds = []int{math.MinInt, -1, 5, 6, math.MaxInt}

// named is so many names that all kinds allow, no two alike.
func named(many int) []string {
	out := make([]string, many)
	for i := range out {
		out[i] = "name_" + strconv.Itoa(i)
	}
	return out
}

// holding is a dictionary of these names, made by tables alone; what comes may not be, if a name may not.
func holding(kinds ...[]string) api.Dict {
	var out api.Dict
	for kind := range out.Kinds {
		out.Kinds[kind] = table.New()
		if kind < len(kinds) {
			out.Kinds[kind], _, _ = table.All(table.New(), kinds[kind]...)
		}
	}
	return out
}

// only is a dictionary of names of one kind.
func only(kind int, l ...string) api.Dict {
	var kinds [api.DiKinds][]string
	kinds[kind] = l
	return holding(kinds[:]...)
}

// allows is the chapter's words, one by one.
func allows(kind int, s string) bool {
	most, of := 32, keyBytes
	switch kind {
	case 0, 1, 2, 3:
		if s == "" {
			return false
		}
	case 4:
		most, of = 40, valueBytes
	default:
		return false
	}
	for i := range len(s) {
		if strings.IndexByte(of, s[i]) < 0 {
			return false
		}
	}
	return len(s) <= most
}

func mayBe(d api.Dict) bool {
	for kind, t := range d.Kinds {
		if table.Check(t) != api.OK || len(t.Texts) > 128 {
			return false
		}
		for _, s := range t.Texts {
			if !allows(kind, s) {
				return false
			}
		}
	}
	return true
}

// dicts may be: some at the edges, some that no Put of this package makes.
func dicts() map[string]api.Dict {
	long, worth := strings.Repeat("z", 32), strings.Repeat("~", 40)
	all := named(128)
	wide := holding([]string{"ann"}, nil, []string{"knows"})
	wide.Kinds[2].Slots = append(wide.Kinds[2].Slots[:0:0], make([]int, 256)...)
	wide.Kinds[2].Slots[table.Hash("knows")%256] = 1
	empty := dict.New()
	empty.Kinds[3].Texts = []string{}
	return map[string]api.Dict{
		"new":                         dict.New(),
		"new, but an empty list":      empty,
		"ann, bob":                    holding([]string{"ann", "bob"}),
		"one of each":                 holding([]string{"a"}, []string{"b"}, []string{"c"}, []string{"d"}, []string{"e"}),
		"the same of each":            holding([]string{"a"}, []string{"a"}, []string{"a"}, []string{"a"}, []string{"a"}),
		"the last kind alone":         only(4, "x", "", "A b", "{}"),
		"the longest names":           holding([]string{long, "_"}, []string{long}, []string{"0", long}, []string{long}, []string{worth, ""}),
		"a value of no bytes":         only(4, ""),
		"all bytes":                   holding(strings.Split(keyBytes, ""), nil, nil, nil, strings.Split(valueBytes, "")),
		"slots that no Put lays":      wide,
		"one less than all":           only(1, all[1:]...),
		"all of the first kind":       only(0, all...),
		"all of the last kind":        only(4, all...),
		"all of all":                  holding(all, all, all, all, all),
		"all of all, in other orders": holding(all, turned(all), all, turned(all), turned(all)),
	}
}

func turned(l []string) []string {
	out := slices.Clone(l)
	slices.Reverse(out)
	return out
}

// noDicts may not be, for each reason one at least.
func noDicts() map[string]api.Dict {
	out := map[string]api.Dict{"zero": {}}
	for kind := range api.DiKinds {
		at := fmt.Sprintf(", kind %d", kind)
		none := holding([]string{"a"}, []string{"a"}, []string{"a"}, []string{"a"}, []string{"a"})
		none.Kinds[kind] = api.Table{}
		out["no table"+at] = none
		free := only(kind, "ann", "bob")
		free.Kinds[kind].Slots = make([]int, 8)
		out["no number in a slot"+at] = free
		twice := only(kind, "ann", "bob")
		twice.Kinds[kind].Texts[1] = "ann"
		out["a name twice"+at] = twice
		out["one too many"+at] = only(kind, named(129)...)
		out["as many as a table has"+at] = only(kind, named(1024)...)
		for _, s := range notAllowed(kind) {
			out[fmt.Sprintf("the name %.12q (%d)%s", s, len(s), at)] = only(kind, "ann", s)
		}
		last := named(127)
		out["the last name"+at] = only(kind, append(last, "\"")...)
	}
	return out
}

// notAllowed is names that are none of that kind.
func notAllowed(kind int) []string {
	out := []string{"\"", "\\", "an\"", "\\n", "\x00", "\n", "\x1f", "\x7f", "\x80", "\xff", "ä", "a\u20ac", "\u0101", "\U0001f600", "\xc3", strings.Repeat("a", 41), strings.Repeat("a", 4001)}
	if kind != api.DiValue {
		out = append(out, "", " ", "Ann", "annA", "a b", "a-b", "a.", "@a", "`", "{", "/", ":", "^", strings.Repeat("a", 33), strings.Repeat("A", 32))
	}
	return out
}

func none(d api.Dict) bool {
	for _, t := range d.Kinds {
		if t.Texts != nil || t.Slots != nil {
			return false
		}
	}
	return true
}

// told is the beginning of each kind's names, as a fault is told.
func told(d api.Dict) string {
	out := ""
	for _, t := range d.Kinds {
		out += fmt.Sprintf("%.9q (%d) ", t.Texts[:min(4, len(t.Texts))], len(t.Texts))
	}
	return out
}

// kept is a copy, by which it is seen whether what was copied has changed.
func kept(d api.Dict) api.Dict {
	for kind, t := range d.Kinds {
		d.Kinds[kind] = api.Table{Texts: slices.Clone(t.Texts), Slots: slices.Clone(t.Slots)}
	}
	return d
}

// asIs tells whether the slots are alike, too.
func asIs(a, b api.Dict) bool {
	for kind, t := range a.Kinds {
		if !slices.Equal(t.Texts, b.Kinds[kind].Texts) || !slices.Equal(t.Slots, b.Kinds[kind].Slots) {
			return false
		}
	}
	return true
}

// P6.1 to P6.4: the chapter's examples.
func TestExamples(t *testing.T) {
	d := dict.New()
	for _, x := range []struct {
		name string
		want int
	}{{"ann", 0}, {"bob", 1}, {"ann", 0}} {
		n, id, e := dict.Put(d, api.DiNode, x.name)
		if id != x.want || e != api.OK {
			t.Errorf("Put(%s): %d, %d, want %d", x.name, id, e, x.want)
		}
		d = n
	}
	if id, ok := dict.Id(d, api.DiLabel, "ann"); id != 0 || ok {
		t.Errorf("Id(DiLabel, ann): %d %t", id, ok)
	}
	for _, x := range []struct {
		kind, id int
		want     string
		e        api.Errno
	}{{api.DiNode, 1, "bob", api.OK}, {api.DiNode, 2, "", api.ErrNone}, {5, 0, "", api.ErrArg}} {
		if s, e := dict.Name(d, x.kind, x.id); s != x.want || e != x.e {
			t.Errorf("Name(%d, %d): %q, %d", x.kind, x.id, s, e)
		}
	}
	if dict.May(api.DiNode, "Ann") || !dict.May(api.DiValue, "Ann") || !dict.May(api.DiValue, "") || dict.May(api.DiType, "") {
		t.Errorf("May")
	}
	if b, e := dict.Bytes(d); string(b) != "\x02\x03ann\x03bob\x00\x00\x00\x00" || e != api.OK {
		t.Errorf("Bytes: %v, %d", b, e)
	}
}

// P6.1: each byte ahead of others, behind, between and alone.
func TestMayBytes(t *testing.T) {
	for n := range 256 {
		b := string([]byte{byte(n)})
		for kind := range api.DiKinds {
			for _, s := range []string{b, "a" + b, b + "a", "a" + b + "z", b + b} {
				if may := dict.May(kind, s); may != allows(kind, s) {
					t.Errorf("May(%d, %q): %t", kind, s, may)
				}
			}
		}
	}
}

// P6.1: runes of two bytes and more, such as fall onto a byte that may be, if they are cut; and what is no rune.
func TestMayRunes(t *testing.T) {
	for r := rune(128); r < 0x20000; r += 7 {
		for kind := range api.DiKinds {
			if s := "a" + string(r); dict.May(kind, s) {
				t.Fatalf("May(%d, %q)", kind, s)
			}
		}
	}
	for _, s := range []string{"\u0161", "\u2061", "\ufffd", "a\xe2\x82", "\xf0\x9f\x98", "\xed\xa0\x80", "\xc1\xa1"} {
		for kind := range api.DiKinds {
			if dict.May(kind, s) {
				t.Errorf("May(%d, %q)", kind, s)
			}
		}
	}
}

// P6.1: how long a name may be, of each kind; bytes are counted, not runes.
func TestMayLong(t *testing.T) {
	for many := range 100 {
		s := strings.Repeat("x", many)
		for kind := range api.DiValue {
			if may := dict.May(kind, s); may != (many >= 1 && many <= 32) {
				t.Errorf("May(%d, %d bytes): %t", kind, many, may)
			}
		}
		if may := dict.May(api.DiValue, s); may != (many <= 40) {
			t.Errorf("May(DiValue, %d bytes): %t", many, may)
		}
	}
	if dict.May(api.DiValue, strings.Repeat("x", 1<<20)) {
		t.Errorf("May(DiValue, 2^20 bytes)")
	}
}

// P6.1: of no kind there is no name.
func TestMayNoKind(t *testing.T) {
	for _, kind := range noKinds {
		for _, s := range []string{"", "a", "ann", " ", "A"} {
			if dict.May(kind, s) {
				t.Errorf("May(%d, %q)", kind, s)
			}
		}
	}
}

// P6.1: whatever becomes of one new dictionary, or of one of its tables, the others are new.
func TestNew(t *testing.T) {
	for range 2 {
		d := dict.New()
		for kind := range api.DiKinds {
			if l := dict.Names(d, kind); len(l) != 0 {
				t.Errorf("New has %q of kind %d", l, kind)
			}
		}
		if e := dict.Check(d); e != api.OK || !mayBe(d) {
			t.Fatalf("Check(New): %d", e)
		}
		for kind := range api.DiKinds - 1 {
			d.Kinds[kind].Slots[0] = 1
			if table.Check(d.Kinds[kind+1]) != api.OK {
				t.Errorf("kinds %d and the next one have one memory", kind)
			}
		}
	}
}

// P6.1
func TestCheck(t *testing.T) {
	for what, d := range dicts() {
		if e := dict.Check(d); e != api.OK || !mayBe(d) {
			t.Errorf("Check, %s: %d", what, e)
		}
	}
	for why, d := range noDicts() {
		if e := dict.Check(d); e != api.ErrDict || mayBe(d) {
			t.Errorf("Check, %s: %d", why, e)
		}
	}
}

// P6.1: each of these against each; slots are not asked, nor whether they may be.
func TestSame(t *testing.T) {
	all := dicts()
	for why, d := range noDicts() {
		all["not: "+why] = d
	}
	for a, x := range all {
		for b, y := range all {
			want := true
			for kind := range x.Kinds {
				want = want && slices.Equal(x.Kinds[kind].Texts, y.Kinds[kind].Texts)
			}
			if same := dict.Same(x, y); same != want || a == b && !same {
				t.Fatalf("Same(%s; %s): %t", a, b, same)
			}
		}
	}
}

// P6.1: one name alone is another one, or has another place; what is not asked.
func TestSameOne(t *testing.T) {
	for kind := range api.DiKinds {
		d := only(kind, "ann", "bob", "cy")
		for _, l := range [][]string{nil, {"ann", "bob"}, {"ann", "cy", "bob"}, {"ann", "bob", "di"}, {"ann", "bob", "cy", "di"}, {"bob", "cy"}} {
			if other := only(kind, l...); dict.Same(d, other) || dict.Same(other, d) {
				t.Errorf("Same, kind %d, %q", kind, l)
			}
		}
		if other := only((kind+1)%api.DiKinds, "ann", "bob", "cy"); dict.Same(d, other) {
			t.Errorf("Same, kind %d and the next one", kind)
		}
		bare := kept(d)
		bare.Kinds[kind].Slots = nil
		if !dict.Same(d, bare) || !dict.Same(bare, d) {
			t.Errorf("Same, kind %d, without slots", kind)
		}
	}
	if !dict.Same(dict.New(), api.Dict{}) || !dict.Same(api.Dict{}, api.Dict{}) {
		t.Errorf("Same, without names")
	}
}
