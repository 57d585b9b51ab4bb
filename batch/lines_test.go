package batch_test

import (
	"fmt"
	"regexp"
	"slices"
	"strings"
	"testing"

	"colander/api"
	"colander/batch"
)

// line is a change, and its line as the chapter writes it.
type line struct {
	of   api.Change
	text string
}

// written are changes of each kind, at the edges of names and values.
func written() []line {
	long, worth := strings.Repeat("z", 32), strings.Repeat("~", 40)
	return []line{
		{api.Change{Kind: 1, Key: "ann"}, `add ann`},
		{api.Change{Kind: 1, Key: "add"}, `add add`},
		{api.Change{Kind: 1, Key: long}, `add ` + long},
		{api.Change{Kind: 2, Key: "_"}, `drop _`},
		{api.Change{Kind: 2, Key: "0"}, `drop 0`},
		{api.Change{Kind: 3, Key: "ann", Name: "person"}, `label ann person`},
		{api.Change{Kind: 3, Key: "label", Name: "unlabel"}, `label label unlabel`},
		{api.Change{Kind: 4, Key: long, Name: long}, `unlabel ` + long + ` ` + long},
		{api.Change{Kind: 5, Key: "ann", Name: "age", Value: "41"}, `set ann age "41"`},
		{api.Change{Kind: 5, Key: "ann", Name: "age"}, `set ann age ""`},
		{api.Change{Kind: 5, Key: "a", Name: "b", Value: " "}, `set a b " "`},
		{api.Change{Kind: 5, Key: "a", Name: "b", Value: "   x  y  "}, `set a b "   x  y  "`},
		{api.Change{Kind: 5, Key: "a", Name: "b", Value: "set a b 'c'"}, `set a b "set a b 'c'"`},
		{api.Change{Kind: 5, Key: long, Name: long, Value: worth}, `set ` + long + ` ` + long + ` "` + worth + `"`},
		{api.Change{Kind: 5, Key: "a", Name: "b", Value: valueBytes[:40]}, `set a b "` + valueBytes[:40] + `"`},
		{api.Change{Kind: 5, Key: "a", Name: "b", Value: valueBytes[53:]}, `set a b "` + valueBytes[53:] + `"`},
		{api.Change{Kind: 6, Key: "ann", Name: "age"}, `unset ann age`},
		{api.Change{Kind: 7, Key: "ann", Name: "knows", To: "bob"}, `link ann knows bob`},
		{api.Change{Kind: 7, Key: "a", Name: "a", To: "a"}, `link a a a`},
		{api.Change{Kind: 8, Key: long, Name: long, To: long}, `unlink ` + long + ` ` + long + ` ` + long},
		{api.Change{Kind: 8, Key: "0", Name: "_", To: "z9"}, `unlink 0 _ z9`},
	}
}

func changes() []api.Change {
	var out []api.Change
	for _, w := range written() {
		out = append(out, w.of)
	}
	return out
}

func manyChanges(many int) []api.Change {
	l := changes()
	out := []api.Change{}
	for i := range many {
		out = append(out, l[i%len(l)])
	}
	return out
}

// manyLines is the text of manyChanges.
func manyLines(many int) string {
	l := written()
	out := ""
	for i := range many {
		out += l[i%len(l)].text + "\n"
	}
	return out
}

// says is the chapter's table as a pattern, apart from how the package reads.
func says(text string) (api.Change, bool) {
	m := saying.FindStringSubmatch(text)
	if m == nil {
		return api.Change{}, false
	}
	kinds := map[string]int{"add": 1, "drop": 2, "label": 3, "unlabel": 4, "set": 5, "unset": 6, "link": 7, "unlink": 8}
	return api.Change{Kind: kinds[m[1]+m[3]+m[6]+m[10]], Key: m[2] + m[4] + m[7] + m[11], Name: m[5] + m[8] + m[12], Value: m[9], To: m[13]}, true
}

var saying = func() *regexp.Regexp {
	const n = `([a-z0-9_]{1,32})`
	return regexp.MustCompile(`\A(?:(add|drop) ` + n + `|(label|unlabel|unset) ` + n + ` ` + n + `|(set) ` + n + ` ` + n + ` "([ !#-\[\]-~]{0,40})"|(link|unlink) ` + n + ` ` + n + ` ` + n + `)\z`)
}()

// reads is P9.4 word by word.
func reads(s string) ([]api.Change, int, api.Errno) {
	l := strings.Split(s, "\n")
	last := l[len(l)-1]
	l = l[:len(l)-1]
	var out []api.Change
	first := 0
	for i, text := range l {
		c, ok := says(text)
		if !ok && first == 0 {
			first = i + 1
		}
		out = append(out, c)
	}
	many := len(l)
	if last != "" {
		many++
		if first == 0 {
			first = many
		}
	}
	switch {
	case first > 0 && first <= 64:
		return nil, first, api.ErrLine
	case many > 64:
		return nil, 0, api.ErrLong
	}
	return out, many, api.OK
}

func checkRead(t *testing.T, s string) {
	t.Helper()
	want, many, wantE := reads(s)
	got, n, e := batch.Read(s)
	if !slices.Equal(got, want) || n != many || e != wantE {
		t.Errorf("Read(%.300q): %.300q, %d, %d, want %.300q, %d, %d", s, fmt.Sprint(got), n, e, fmt.Sprint(want), many, wantE)
	}
}

// P9.3
func TestLine(t *testing.T) {
	for _, w := range written() {
		if s, e := batch.Line(w.of); s != w.text || e != api.OK {
			t.Errorf("Line(%q): %q, %d, want %q", []any{w.of}, s, e, w.text)
		}
		for _, bad := range spoilt(w.of) {
			if s, e := batch.Line(bad); s != "" || e != api.ErrChange {
				t.Errorf("Line(%.200q): %q, %d", []any{bad}, s, e)
			}
		}
	}
	for _, kind := range noKinds {
		for _, c := range append(changes(), api.Change{}) {
			c.Kind = kind
			if s, e := batch.Line(c); s != "" || e != api.ErrChange {
				t.Errorf("Line(%q): %q, %d", []any{c}, s, e)
			}
		}
	}
}

// spoilt is a change with one part each that it may not have.
func spoilt(c api.Change) []api.Change {
	var out []api.Change
	for _, s := range []string{"", "A", "a\nadd b", "a b", "a\" \"b", "\xff", strings.Repeat("a", 41), "a"} {
		for part := range 4 {
			with := c
			*[]*string{&with.Key, &with.Name, &with.Value, &with.To}[part] = s
			if !mayBe(with) {
				out = append(out, with)
			}
		}
	}
	return out
}

// P9.3
func TestText(t *testing.T) {
	if s, e := batch.Text(); s != "" || e != api.OK {
		t.Errorf("Text of nothing: %q, %d", s, e)
	}
	for many := range 67 {
		want, wantE := manyLines(many), api.OK
		if many > 64 {
			want, wantE = "", api.ErrLong
		}
		if s, e := batch.Text(manyChanges(many)...); s != want || e != wantE {
			t.Errorf("Text of %d: %q, %d", many, s, e)
		}
	}
	for _, w := range written() {
		if s, e := batch.Text(w.of); s != w.text+"\n" || e != api.OK {
			t.Errorf("Text(%q): %q, %d", []any{w.of}, s, e)
		}
		for _, bad := range spoilt(w.of) {
			if s, e := batch.Text(w.of, bad); s != "" || e != api.ErrChange {
				t.Errorf("Text(%.200q): %q, %d", []any{bad}, s, e)
			}
		}
	}
}

// P9.4: the chapter's examples, and those of what may go wrong.
func TestReadExamples(t *testing.T) {
	l, n, e := batch.Read("add ann\nlabel ann person\n")
	if !slices.Equal(l, []api.Change{{Kind: api.ChAdd, Key: "ann"}, {Kind: api.ChLabel, Key: "ann", Name: "person"}}) || n != 2 || e != api.OK {
		t.Errorf("%v, %d, %d", l, n, e)
	}
	for s, want := range map[string]int{
		"add ann\nadd Ann\nadd bob\n": 2,
		"add ann\nadd Ann":            2,
		"add ann":                     1,
		"add ann\nadd bob":            2,
		"\n":                          1,
		"add ann\n\n":                 2,
		"\nadd ann\n":                 1,
		" ":                           1,
		"a":                           1,
		"add ann\r\n":                 1,
		"add ann\nadd bob \n":         2,
	} {
		if l, n, e := batch.Read(s); len(l) != 0 || n != want || e != api.ErrLine {
			t.Errorf("Read(%q): %v, %d, %d, want %d", s, l, n, e, want)
		}
	}
	if l, n, e := batch.Read(""); len(l) != 0 || n != 0 || e != api.OK {
		t.Errorf("Read of no bytes: %v, %d, %d", l, n, e)
	}
}

// P9.4: lines that say no change.
func TestReadNoLines(t *testing.T) {
	name, long := strings.Repeat("a", 33), strings.Repeat("a", 41)
	for _, s := range []string{
		"", " ", "  ", "add", "add ", " add", "add  ", " add ann", "add  ann", "add ann ", "add\tann", "Add ann", "ADD ann", "ad ann", "addd ann", "add ann bob", "add \"ann\"", "add" + name, "add " + name, "add ann#", "ann", "ann add", "\x00", " ann", "  ann", "0 ann", "1 ann",
		"drop", "drop ann bob", "drop ann \"x\"", "drop " + name,
		"label", "label ann", "label ann ", "label  ann p", "label ann  p", "label ann p ", "label ann p q", "label ann \"p\"", "label ann P", "label " + name + " p", "label ann " + name, "un label ann p",
		"unlabel ann", "unlabel ann p q", "unset ann", "unset ann p \"\"", "unset ann p q", "unset ann \"p\"",
		"set", "set ann", "set ann p", "set ann p ", "set ann p q", "set ann p \"", "set ann p \"\"\"", "set ann p \"q", "set ann p q\"", "set ann p 'q'", "set ann p \"q\" ", "set ann p  \"q\"", "set ann p \"q\"x", "set ann p x\"q\"", "set ann p \"q\" \"r\"", "set ann p \"a\"b\"", "set ann p \"a\\b\"", "set ann p \"\\\"\"", "set ann p \"a\tb\"", "set ann p \"\x7f\"", "set ann p \"\x80\"", "set ann p \"é\"", "set ann p \"" + long + "\"", "set ann \"p\" \"q\"", "set ann \"q\"", "set ann p\"q\"", "set \"ann\" p \"q\"", "set ann  \"q\"", "set  p \"q\"", "set " + name + " p \"q\"", "set ann " + name + " \"q\"",
		"link", "link ann", "link ann knows", "link ann knows ", "link ann knows bob ", "link ann knows bob cy", "link ann  knows bob", "link ann knows  bob", "link  ann knows bob", "link ann knows \"bob\"", "link ann knows Bob", "link ann knows " + name, "link ann " + name + " bob", "link " + name + " knows bob",
		"unlink ann knows", "unlink ann knows bob cy", "unlink ann knows \"bob\"",
		"link\xa0ann knows bob", "add a\u00a0b", "add ann\x00", "add ann\v", "\ufeffadd ann",
	} {
		if _, ok := says(s); ok {
			t.Fatalf("%q says a change", s)
		}
		for at, text := range []string{s + "\n", "add ann\n" + s + "\n", "add ann\nadd bob\n" + s + "\nadd cy\n"} {
			if l, n, e := batch.Read(text); len(l) != 0 || n != at+1 || e != api.ErrLine {
				t.Errorf("Read(%q): %v, %d, %d, want ErrLine, %d", text, l, n, e, at+1)
			}
		}
	}
}

// P9.4: as many lines as there may be, and more; with lines that say none, or have no line feed, at each place.
func TestReadMany(t *testing.T) {
	for _, many := range []int{0, 1, 2, 21, 22, 62, 63, 64, 65, 66, 67, 128, 1000} {
		l, n, e := batch.Read(manyLines(many))
		switch {
		case many > 64 && (len(l) != 0 || n != 0 || e != api.ErrLong):
			t.Errorf("Read of %d lines: %d, %d, %d", many, len(l), n, e)
		case many <= 64 && (!slices.Equal(l, manyChanges(many)) || n != many || e != api.OK):
			t.Errorf("Read of %d lines: %d, %d, %d", many, len(l), n, e)
		}
		for _, rest := range []string{"add ann", "x", " ", "\n", "x\n", "add Ann\n", "\n\n", "x\nx\n", "add ann\nx\n", "add ann\nadd ann", "add ann\nadd ann\n"} {
			checkRead(t, manyLines(many)+rest)
		}
	}
	for at := range 70 {
		for _, behind := range []int{0, 1, 30, 63, 64, 65} {
			for _, bad := range []string{"\n", "x\n", "add Ann\n", "set ann p \"\"\"\n"} {
				want, wantE := at+1, api.ErrLine
				if at >= 64 {
					want, wantE = 0, api.ErrLong
				}
				for _, s := range []string{bad + manyLines(behind), bad + bad + manyLines(behind), bad + manyLines(behind) + "x"} {
					if l, n, e := batch.Read(manyLines(at) + s); len(l) != 0 || n != want || e != wantE {
						t.Errorf("Read of %d lines, then %q, %d more: %d, %d, %d, want %d, %d", at, bad, behind, len(l), n, e, want, wantE)
					}
				}
			}
		}
	}
}

// P9.4: lines with one byte more, less, or another one, at each place.
func TestReadNear(t *testing.T) {
	for _, s := range manyTexts() {
		for at := range len(s) + 1 {
			for b := range 256 {
				checkRead(t, s[:at]+string([]byte{byte(b)})+s[at:])
				if at < len(s) {
					checkRead(t, s[:at]+string([]byte{byte(b)})+s[at+1:])
				}
			}
			if at < len(s) {
				checkRead(t, s[:at]+s[at+1:])
			}
			checkRead(t, s[:at])
			checkRead(t, s[at:])
		}
	}
}

// manyTexts are texts of all kinds of lines.
func manyTexts() []string {
	return []string{
		"add a1\n", "drop a1\n", "label a b\n", "unlabel a b\n", "set a b \"c D\"\n", "set a b \"\"\n", "unset a b\n", "link a b c\n", "unlink a b c\n",
		"add a\nset a b \"\"\nlink a c a\n", "add " + strings.Repeat("a", 32) + "\n", "set a b \"" + strings.Repeat("a", 40) + "\"\n",
	}
}

// P9.4: a text may be as long as it likes.
func TestReadLong(t *testing.T) {
	for _, s := range []string{"a", " ", "\n", "\"", "add a\n", "add a", "set a b \"", "link a a a "} {
		long := strings.Repeat(s, 1<<20/len(s))
		for _, text := range []string{long, long + "\n", "add ann\n" + long, "add " + long + "\n", "set a b \"" + long + "\"\n"} {
			checkRead(t, text)
		}
	}
}
