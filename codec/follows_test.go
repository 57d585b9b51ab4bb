package codec_test

import (
	"bytes"
	"slices"
	"testing"

	"colander/api"
	"colander/codec"
)

// surroundings are what may stand ahead of what is read, or behind.
func surroundings() [][]byte {
	return [][]byte{nil, {0}, {1}, {127}, {128}, {255}, {2, 97, 98}, times(128, 10), times(255, 11), times(0, 5)}
}

func eachSurrounding(written []byte, do func(b []byte, at, next int)) {
	for _, ahead := range surroundings() {
		for _, behind := range surroundings() {
			do(with(ahead, written, behind), len(ahead), len(ahead)+len(written))
		}
	}
}

// P2.6: what is written is read again.
func TestNumberBack(t *testing.T) {
	for _, n := range numbers() {
		eachSurrounding(codec.Number(n), func(b []byte, at, next int) {
			if m, to, e := codec.ReadNumber(b, at); m != n || to != next || e != api.OK {
				t.Errorf("ReadNumber(%v, %d): %d %d %d, want %d %d", b, at, m, to, e, n, next)
			}
		})
	}
}

// P2.6
func TestTextBack(t *testing.T) {
	for _, s := range []string{"", "a", "ab", "\x80\x00", string(times('x', 127)), string(times('x', 128)), string(times('\xff', api.MaxText))} {
		written, _ := codec.Text(s)
		eachSurrounding(written, func(b []byte, at, next int) {
			if back, to, e := codec.ReadText(b, at); back != s || to != next || e != api.OK {
				t.Errorf("ReadText of %d bytes at %d: %q %d %d", len(s), at, back, to, e)
			}
		})
	}
}

// P2.6
func TestRowBack(t *testing.T) {
	for _, l := range [][]uint64{nil, {0}, {128}, {1, 300, 1<<64 - 1}, numbers()} {
		eachSurrounding(codec.Row(l...), func(b []byte, at, next int) {
			if back, to, e := codec.ReadRow(b, at); !slices.Equal(back, l) || to != next || e != api.OK {
				t.Errorf("ReadRow of %v at %d: %v %d %d", l, at, back, to, e)
			}
		})
	}
}

// P2.6
func TestFrameBack(t *testing.T) {
	for _, held := range [][]byte{nil, {0}, {128, 0}, times(128, 10), times(3, 200)} {
		written, _ := codec.Frame(held)
		eachSurrounding(written, func(b []byte, at, next int) {
			if back, to, e := codec.ReadFrame(b, at); !slices.Equal(back, held) || to != next || e != api.OK {
				t.Errorf("ReadFrame of %v at %d: %v %d %d", held, at, back, to, e)
			}
		})
	}
}

// P2.6: parts of several kinds, one behind the other.
func TestPartsInARow(t *testing.T) {
	text, _ := codec.Text("knows")
	frame, _ := codec.Frame(text)
	b := with(codec.Number(300), text, codec.Row(7, 1<<40), frame, codec.Number(0))
	n, at, e := codec.ReadNumber(b, 0)
	if n != 300 || e != api.OK {
		t.Errorf("number: %d %d", n, e)
	}
	s, at, e := codec.ReadText(b, at)
	if s != "knows" || e != api.OK {
		t.Errorf("text: %q %d", s, e)
	}
	l, at, e := codec.ReadRow(b, at)
	if !slices.Equal(l, []uint64{7, 1 << 40}) || e != api.OK {
		t.Errorf("row: %v %d", l, e)
	}
	held, at, e := codec.ReadFrame(b, at)
	if !slices.Equal(held, text) || e != api.OK {
		t.Errorf("frame: %v %d", held, e)
	}
	n, at, e = codec.ReadNumber(b, at)
	if n != 0 || at != len(b) || e != api.OK {
		t.Errorf("last number: %d %d %d", n, at, e)
	}
}

// checkReads: what is read, in whatever bytes, is written as it stood there; with an error all else is zero.
func checkReads(t *testing.T, b []byte, at int) {
	same := func(what string, written []byte, next int) {
		if next > len(b) || next < at || !slices.Equal(b[at:next], written) {
			t.Errorf("%s of %v at %d, up to %d: written as %v", what, b, at, next, written)
		}
	}
	if n, next, e := codec.ReadNumber(b, at); e == api.OK {
		same("number", codec.Number(n), next)
	} else if n != 0 || next != 0 {
		t.Errorf("number of %v at %d: %d %d beside %d", b, at, n, next, e)
	}
	if s, next, e := codec.ReadText(b, at); e == api.OK {
		written, _ := codec.Text(s)
		same("text", written, next)
	} else if s != "" || next != 0 {
		t.Errorf("text of %v at %d: %q %d beside %d", b, at, s, next, e)
	}
	if l, next, e := codec.ReadRow(b, at); e == api.OK {
		same("row", codec.Row(l...), next)
	} else if len(l) != 0 || next != 0 {
		t.Errorf("row of %v at %d: %v %d beside %d", b, at, l, next, e)
	}
	if held, next, e := codec.ReadFrame(b, at); e == api.OK {
		written, _ := codec.Frame(held)
		same("frame", written, next)
	} else if len(held) != 0 || next != 0 {
		t.Errorf("frame of %v at %d: %v %d beside %d", b, at, held, next, e)
	}
}

// P2.6
func TestReadIsWritten(t *testing.T) {
	for many := range 6 {
		eachBytes([]byte{0, 1, 2, 3, 127, 128, 129, 255}, many, func(b []byte) {
			for at := range many + 1 {
				checkReads(t, b, at)
			}
		})
	}
}

// P2.6: one byte that is another one makes another sum, wherever it stands.
func TestSumOfOneByte(t *testing.T) {
	for _, b := range [][]byte{{0}, {255}, {128, 0, 7}, times(0, 40), times(255, 70), []byte("ann knows bob")} {
		was := codec.Sum(b)
		for at := range b {
			for more := 1; more < 256; more++ {
				b[at] += byte(more)
				if codec.Sum(b) == was {
					t.Errorf("Sum(%v), %d more at %d, is the same", b, more, at)
				}
				b[at] -= byte(more)
			}
		}
	}
}

// P2.6: no number's bytes are how another one's begin.
func TestNumbersApart(t *testing.T) {
	l := numbers()
	for n := range uint64(1000) {
		l = append(l, n)
	}
	slices.Sort(l)
	l = slices.Compact(l)
	written := make([][]byte, len(l))
	for i, n := range l {
		written[i] = codec.Number(n)
	}
	for i, a := range written {
		for j, b := range written {
			if i != j && bytes.HasPrefix(b, a) {
				t.Errorf("%d: %v begins with %d: %v", l[j], b, l[i], a)
			}
		}
	}
}

// R3: what is handed in stays as it is, the room behind its end, too; what is answered is new memory.
func TestNewMemory(t *testing.T) {
	frame, _ := codec.Frame([]byte{1, 2, 3})
	room := with(frame, times(9, 20))
	before := slices.Clone(room)
	held, _, e := codec.ReadFrame(room[:len(frame)], 0)
	if e != api.OK {
		t.Errorf("ReadFrame: %d", e)
	}
	_ = append(held, 77, 77, 77, 77)
	for i := range held {
		held[i] = 77
	}
	written, _ := codec.Frame(room[1:4])
	for i := range written {
		written[i] = 88
	}
	_ = append(written, 88)
	empty, _, _ := codec.ReadFrame([]byte{0, 1, 0, 0, 0}, 0)
	_ = append(empty, 5)
	if !slices.Equal(room, before) {
		t.Errorf("the bytes became %v", room)
	}

	l := []uint64{1, 300, 7, 7}
	written = codec.Row(l[:2]...)
	row, _, _ := codec.ReadRow(written, 0)
	row[0] = 5
	_ = append(row, 6)
	if !slices.Equal(l, []uint64{1, 300, 7, 7}) || !slices.Equal(written, []byte{2, 1, 172, 2}) {
		t.Errorf("the row became %v, its bytes %v", l, written)
	}

	b := []byte{2, 'a', 'b'}
	s, _, _ := codec.ReadText(b, 0)
	b[1] = 'x'
	if s != "ab" {
		t.Errorf("the text became %q", s)
	}
	one, two := codec.Number(300), codec.Number(300)
	one[0] = 0
	if !slices.Equal(two, []byte{172, 2}) {
		t.Errorf("the number's bytes became %v", two)
	}
}

// R1: no argument makes a call panic.
func FuzzReads(f *testing.F) {
	frame, _ := codec.Frame([]byte("ab"))
	for _, b := range [][]byte{nil, {0}, {128, 0}, {2, 97, 98}, {9, 1}, times(128, 10), codec.Row(1, 300), frame} {
		f.Add(b, 0)
		f.Add(b, len(b))
		f.Add(b, -1)
	}
	f.Fuzz(checkReads)
}
