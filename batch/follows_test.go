package batch_test

import (
	"slices"
	"strings"
	"testing"

	"colander/api"
	"colander/batch"
)

// P9.5: Read of Text are the changes, and Text of what is read the text.
func TestThereAndBack(t *testing.T) {
	for many := range 65 {
		l := manyChanges(many)
		slices.Reverse(l)
		s, e := batch.Text(l...)
		if e != api.OK || strings.Count(s, "\n") != many {
			t.Fatalf("Text of %d: %q, %d", many, s, e)
		}
		back, n, e := batch.Read(s)
		if !slices.Equal(back, l) || n != many || e != api.OK {
			t.Errorf("Read of Text of %d: %q, %d, %d", many, []any{back}, n, e)
		}
		again, e := batch.Text(back...)
		if again != s || e != api.OK {
			t.Errorf("Text of Read of %d: %q, %d, want %q", many, again, e, s)
		}
		if n, e := batch.Batch(back); n != many || e != api.OK {
			t.Errorf("Batch of what was read, %d: %d, %d", many, n, e)
		}
	}
}

// P9.5: of names and values of each length, and of each of their bytes.
func TestThereAndBackBytes(t *testing.T) {
	for many := 1; many <= 40; many++ {
		for b := range len(valueBytes) {
			value := strings.Repeat(valueBytes[b:b+1], many)
			name := strings.Repeat(nameBytes[b%37:b%37+1], min(many, 32))
			l := []api.Change{
				{Kind: api.ChSet, Key: name, Name: "n", Value: value}, {Kind: api.ChSet, Key: "k", Name: name, Value: value[1:]},
				{Kind: api.ChLink, Key: name, Name: "n", To: name}, {Kind: api.ChUnlink, Key: "k", Name: name, To: name},
			}
			s, _ := batch.Text(l...)
			back, n, e := batch.Read(s)
			if !slices.Equal(back, l) || n != 4 || e != api.OK {
				t.Fatalf("Read(%q): %q, %d, %d", s, []any{back}, n, e)
			}
		}
	}
}

// P9.5: what a line says, it says alone, too; its text is Line's, and a line feed.
func TestLinesAlone(t *testing.T) {
	l, n, e := batch.Read(manyLines(64))
	if n != 64 || e != api.OK {
		t.Fatalf("Read of 64: %d, %d", n, e)
	}
	for i, s := range strings.SplitAfter(manyLines(64), "\n")[:64] {
		alone, n, e := batch.Read(s)
		if !slices.Equal(alone, l[i:i+1]) || n != 1 || e != api.OK {
			t.Errorf("Read(%q): %q, %d, %d, want %q", s, []any{alone}, n, e, []any{l[i]})
		}
		if text, e := batch.Line(l[i]); text+"\n" != s || e != api.OK {
			t.Errorf("Line(%q): %q, %d, want %q", []any{l[i]}, text, e, s)
		}
	}
}

// P9.5: what was read, told apart, tells the whole.
func TestTextsBehind(t *testing.T) {
	for at := range 65 {
		l := manyChanges(64)
		a, _ := batch.Text(l[:at]...)
		b, _ := batch.Text(l[at:]...)
		if both, n, e := batch.Read(a + b); !slices.Equal(both, l) || n != 64 || e != api.OK {
			t.Errorf("apart at %d: %d, %d", at, n, e)
		}
	}
}

// P9.5: names with a byte more at the end are names, as long as they are not too long.
func TestNamesGrow(t *testing.T) {
	for first := range len(nameBytes) {
		s := nameBytes[first : first+1]
		for len(s) < 34 {
			for b := range 256 {
				longer := s + string([]byte{byte(b)})
				want := len(s) < 32 && strings.IndexByte(nameBytes, byte(b)) >= 0
				if got := batch.Name(longer); got != want {
					t.Fatalf("Name(%q): %t", longer, got)
				}
			}
			s += nameBytes[(first+7*len(s))%37 : (first+7*len(s))%37+1]
		}
	}
}

// R3: what is handed in stays as it is, the room behind its end, too, and is not kept; what is answered is new memory.
func TestMemory(t *testing.T) {
	for many := range 65 {
		was := append(manyChanges(many), changes()...)
		whole := slices.Clone(was)
		l := whole[:many]
		batch.Batch(l)
		s, _ := batch.Text(l...)
		if !slices.Equal(whole, was) {
			t.Fatalf("what was handed in became %q", []any{whole})
		}
		clear(whole)
		if s != manyLines(many) {
			t.Errorf("the text became %q", s)
		}
		a, _, _ := batch.Read(s)
		b, _, _ := batch.Read(s)
		a = a[:cap(a)]
		for i := range a {
			a[i] = api.Change{Kind: 9, Key: "spoilt"}
		}
		if !slices.Equal(b, manyChanges(many)) {
			t.Errorf("what was read became %q", []any{b})
		}
	}
}

// R5: what is asked hangs on nothing that was asked ahead.
func TestAgain(t *testing.T) {
	for range 3 {
		for _, s := range manyTexts() {
			checkRead(t, s)
			checkRead(t, s+"x")
		}
		for _, w := range written() {
			if s, e := batch.Line(w.of); s != w.text || e != api.OK {
				t.Errorf("Line: %q, %d, want %q", s, e, w.text)
			}
		}
	}
}

// P9.5, R1: whatever bytes are handed in, what is read of them may be, and has just that text.
func FuzzRead(f *testing.F) {
	for _, s := range manyTexts() {
		f.Add(s, 1, "a", "b", "c", "d")
	}
	for kind := range 10 {
		f.Add(manyLines(66), kind, "ann", "knows", "", "bob")
	}
	f.Add("set a b \"\"\"\n", 5, "a", "b", "\"", "")
	f.Add("", -1, "", "", "", "")
	f.Fuzz(func(t *testing.T, s string, kind int, key, name, value, to string) {
		checkRead(t, s)
		l, n, e := batch.Read(s)
		if e == api.OK {
			text, e := batch.Text(l...)
			if text != s || n != len(l) || e != api.OK {
				t.Fatalf("Text of Read(%q): %q, %d", s, text, e)
			}
		}
		c := api.Change{Kind: kind, Key: key, Name: name, Value: value, To: to}
		checkChange(t, c)
		text, e := batch.Text(c)
		if !mayBe(c) {
			if text != "" || e != api.ErrChange {
				t.Fatalf("Text(%q): %q, %d", []any{c}, text, e)
			}
			return
		}
		back, n, e := batch.Read(text)
		if !slices.Equal(back, []api.Change{c}) || n != 1 || e != api.OK {
			t.Fatalf("Read(%q): %q, %d, %d", text, []any{back}, n, e)
		}
	})
}
