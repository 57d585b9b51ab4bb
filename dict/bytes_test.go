package dict_test

import (
	"encoding/binary"
	"math"
	"slices"
	"strings"
	"testing"

	"colander/api"
	"colander/dict"
)

// written is the bytes of a dictionary, as the chapter says them.
func written(d api.Dict) []byte {
	var out []byte
	for _, t := range d.Kinds {
		out = binary.AppendUvarint(out, uint64(len(t.Texts)))
		for _, s := range t.Texts {
			out = append(binary.AppendUvarint(out, uint64(len(s))), s...)
		}
	}
	return out
}

// P6.4
func TestBytes(t *testing.T) {
	for what, d := range dicts() {
		if b, e := dict.Bytes(d); !slices.Equal(b, written(d)) || e != api.OK {
			t.Errorf("Bytes(%s): %.40q, %d", what, b, e)
		}
	}
}

func checkRead(t *testing.T, what string, b []byte, at int, want api.Dict, behind int) {
	t.Helper()
	d, next, e := dict.Read(b, at)
	if e != api.OK || next != behind || !mayBe(d) || !dict.Same(d, want) {
		t.Errorf("Read(%s, %d): %s, %d, %d, want %d", what, at, told(d), next, e, behind)
	}
}

func checkNotRead(t *testing.T, what string, b []byte, at int, want api.Errno) {
	t.Helper()
	if d, next, e := dict.Read(b, at); e != want || next != 0 || !none(d) {
		t.Errorf("Read(%s, %d): %s, %d, %d, want %d", what, at, told(d), next, e, want)
	}
}

// P6.4: whatever stands ahead, or behind.
func TestRead(t *testing.T) {
	for what, d := range dicts() {
		b := written(d)
		for _, ahead := range []string{"", "\x00", "\xff\xff", string(b), strings.Repeat("x", 1000)} {
			for _, behind := range []string{"", "\x00", "\xff", "\x80", string(b)} {
				all := append(append([]byte(ahead), b...), behind...)
				checkRead(t, what, all, len(ahead), d, len(ahead)+len(b))
			}
		}
	}
	two := append(written(only(1, "a")), written(only(4, "b", "c"))...)
	first, next, _ := dict.Read(two, 0)
	second, end, e := dict.Read(two, next)
	if !dict.Same(first, only(1, "a")) || !dict.Same(second, only(4, "b", "c")) || end != len(two) || e != api.OK {
		t.Errorf("one behind the other: %s, %s, %d, %d", told(first), told(second), end, e)
	}
}

// P6.4
func TestReadNoPlace(t *testing.T) {
	for _, b := range [][]byte{nil, {}, {0}, written(only(0, "ann")), written(dict.New())} {
		for _, at := range []int{math.MinInt, -2, -1, len(b) + 1, len(b) + 2, math.MaxInt} {
			checkNotRead(t, "no such place", b, at, api.ErrArg)
		}
		checkNotRead(t, "the end", b, len(b), api.ErrDict)
	}
}

// P6.4: bytes that end within, wherever that is.
func TestReadCut(t *testing.T) {
	for what, d := range dicts() {
		b := written(d)
		for many := range b {
			checkNotRead(t, what+", cut", b[:many], 0, api.ErrDict)
		}
	}
}

// P6.4: for each reason that it is none, in each kind.
func TestReadNone(t *testing.T) {
	full := written(only(0, named(128)...))[2:]
	full = full[:len(full)-4]
	more := written(only(0, named(129)...))[2:]
	more = more[:len(more)-4]
	bad := map[string]string{
		"one name too many":            "\x81\x01" + string(more),
		"far too many names":           "\xff\xff\xff\xff\xff\xff\xff\xff\xff\x01a",
		"more than bytes are left":     "\xff\xff\xff\xff\x1f\x01a",
		"as many as fit in no list":    "\x80\x80\x80\x80\x80\x80\x80\x80\x40",
		"a number in two ways":         "\x81\x00\x01a",
		"a number of too many bytes":   "\x80\x80\x80\x80\x80\x80\x80\x80\x80\x80",
		"a length in two ways":         "\x01\x81\x00a",
		"a text that is too long":      "\x01\xa1\x1f" + strings.Repeat("a", 4001),
		"a length that fits nowhere":   "\x01\xff\xff\xff\xff\xff\xff\xff\xff\xff\x01",
		"a name twice":                 "\x02\x01a\x01a",
		"a name twice, others between": "\x04\x01b\x01a\x01c\x01b",
		"the last one of all twice":    "\x80\x01" + string(full[:len(full)-3]) + "126",
		"more bytes than a name has":   "\x01\x29" + strings.Repeat("a", 41),
		"a quote":                      "\x01\x01\"",
		"a backslash":                  "\x02\x01a\x02b\\",
		"a byte below 32":              "\x01\x01\x1f",
		"a byte from 127 on":           "\x01\x02a\x7f",
		"a byte that is no text":       "\x01\x01\xe4",
		"a rune":                       "\x01\x02ä",
	}
	names := map[string]string{
		"no bytes":             "\x01\x00",
		"a capital":            "\x01\x03Ann",
		"a space":              "\x01\x03a b",
		"one byte too many":    "\x01\x21" + strings.Repeat("a", 33),
		"the second one alone": "\x02\x01a\x01-",
	}
	for kind := range api.DiKinds {
		ahead, behind := strings.Repeat("\x01\x01z", kind), strings.Repeat("\x00", api.DiKinds-1-kind)
		for why, s := range bad {
			checkNotRead(t, why, []byte(ahead+s+behind), 0, api.ErrDict)
			checkNotRead(t, why, []byte("xx"+ahead+s+behind+"x"), 2, api.ErrDict)
		}
		for why, s := range names {
			b := []byte(ahead + s + behind)
			if kind == api.DiValue {
				if _, next, e := dict.Read(b, 0); e != api.OK || next != len(b) {
					t.Errorf("Read(%s), a value: %d, %d", why, next, e)
				}
				continue
			}
			checkNotRead(t, why, b, 0, api.ErrDict)
		}
	}
	checkRead(t, "all names", []byte("\x80\x01"+string(full)+"\x00\x00\x00\x00"), 0, only(0, named(128)...), len(full)+6)
}
