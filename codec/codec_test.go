package codec_test

import (
	"bytes"
	"encoding/binary"
	"math"
	"math/big"
	"slices"
	"strings"
	"testing"

	"colander/api"
	"colander/codec"
)

// numbers are those where a byte more begins, those beside them, and a row of others that is always the same.
func numbers() []uint64 {
	l := []uint64{0, 1, 2, 31, 126, 300, 1000, math.MaxUint32, math.MaxUint32 + 1, math.MaxUint64 - 1, math.MaxUint64}
	for k := range 10 {
		edge := uint64(1) << (7 * k)
		l = append(l, edge-1, edge, edge+1, 127*edge)
	}
	x := uint64(88172645463325252)
	for i := range 200 {
		x ^= x << 13
		x ^= x >> 7
		x ^= x << 17
		l = append(l, x>>(i%64))
	}
	return l
}

func times(x byte, many int) []byte {
	return bytes.Repeat([]byte{x}, many)
}

func with(parts ...[]byte) []byte {
	return slices.Concat(parts...)
}

// wrongPlaces are no places of so many bytes.
func wrongPlaces(many int) []int {
	return []int{-1, -2, math.MinInt, many + 1, many + 2, math.MaxInt}
}

type wrongCase struct {
	b    []byte
	at   int
	want api.Errno
}

// numberFaults are what a number's bytes may not be; a text, a row and a frame begin with one.
func numberFaults() []wrongCase {
	l := []wrongCase{
		{nil, 0, api.ErrShort}, {[]byte{}, 0, api.ErrShort}, {[]byte{1}, 1, api.ErrShort},
		{[]byte{128}, 0, api.ErrShort}, {[]byte{255}, 0, api.ErrShort}, {[]byte{0, 128}, 1, api.ErrShort},
		{[]byte{128, 0}, 0, api.ErrCodec}, {[]byte{129, 0}, 0, api.ErrCodec}, {[]byte{255, 128, 0, 9}, 0, api.ErrCodec},
		{times(128, 9), 0, api.ErrShort}, {times(255, 9), 0, api.ErrShort},
		// The tenth byte tells, though the bytes end behind it.
		{times(128, 10), 0, api.ErrCodec}, {times(255, 10), 0, api.ErrCodec}, {with(times(255, 9), []byte{128}), 0, api.ErrCodec},
		{times(128, 11), 0, api.ErrCodec}, {with(times(128, 10), []byte{1}), 0, api.ErrCodec}, {with(times(128, 10), []byte{0}), 0, api.ErrCodec},
		{with(times(128, 9), []byte{0}), 0, api.ErrCodec}, {with(times(128, 9), []byte{2}), 0, api.ErrCodec},
		{with(times(255, 9), []byte{2}), 0, api.ErrCodec}, {with(times(255, 9), []byte{3}), 0, api.ErrCodec}, {with(times(128, 9), []byte{127}), 0, api.ErrCodec},
	}
	for many := 1; many < 10; many++ {
		l = append(l, wrongCase{times(200, many), 0, api.ErrShort}, wrongCase{with(times(200, many), []byte{0}), 0, api.ErrCodec})
	}
	return l
}

func checkFaults(t *testing.T, what string, cases []wrongCase, read func(b []byte, at int) (zero bool, e api.Errno)) {
	t.Helper()
	for _, c := range cases {
		if zero, e := read(c.b, c.at); e != c.want || !zero {
			t.Errorf("%s of %v at %d: error %d, the rest zero: %t; want error %d", what, c.b, c.at, e, zero, c.want)
		}
	}
	for _, b := range [][]byte{nil, {}, {0}, {1, 97}, {128}, times(128, 10)} {
		for _, at := range wrongPlaces(len(b)) {
			if zero, e := read(b, at); e != api.ErrArg || !zero {
				t.Errorf("%s of %v at %d: error %d, the rest zero: %t; want ErrArg", what, b, at, e, zero)
			}
		}
	}
}

func readsNumber(b []byte, at int) (bool, api.Errno) {
	n, next, e := codec.ReadNumber(b, at)
	return n == 0 && next == 0, e
}

func readsText(b []byte, at int) (bool, api.Errno) {
	s, next, e := codec.ReadText(b, at)
	return s == "" && next == 0, e
}

func readsRow(b []byte, at int) (bool, api.Errno) {
	l, next, e := codec.ReadRow(b, at)
	return len(l) == 0 && next == 0, e
}

func readsFrame(b []byte, at int) (bool, api.Errno) {
	held, next, e := codec.ReadFrame(b, at)
	return len(held) == 0 && next == 0, e
}

// P2.1
func TestNumber(t *testing.T) {
	cases := map[uint64][]byte{
		0: {0}, 1: {1}, 127: {127}, 128: {128, 1}, 300: {172, 2}, 16383: {255, 127}, 16384: {128, 128, 1},
		1 << 63:        with(times(128, 9), []byte{1}),
		math.MaxUint64: with(times(255, 9), []byte{1}),
	}
	for n, want := range cases {
		if b := codec.Number(n); !slices.Equal(b, want) {
			t.Errorf("Number(%d): %v, want %v", n, b, want)
		}
	}
	for _, n := range numbers() {
		want := binary.AppendUvarint(nil, n)
		b := codec.Number(n)
		if !slices.Equal(b, want) {
			t.Errorf("Number(%d): %v, want %v", n, b, want)
		}
		if m, next, e := codec.ReadNumber(want, 0); m != n || next != len(want) || e != api.OK {
			t.Errorf("ReadNumber(%v): %d %d %d", want, m, next, e)
		}
	}
}

// P2.1
func TestReadNumberWrong(t *testing.T) {
	checkFaults(t, "ReadNumber", numberFaults(), readsNumber)
}

// numberAt is what the chapter's words say of a number there, put together otherwise than by the package.
func numberAt(b []byte) (uint64, int, api.Errno) {
	last := slices.IndexFunc(b, func(x byte) bool { return x < 128 })
	if last > 9 || last < 0 && len(b) > 9 {
		return 0, 0, api.ErrCodec
	}
	if last < 0 {
		return 0, 0, api.ErrShort
	}
	n := new(big.Int)
	for _, x := range slices.Backward(b[:last+1]) {
		n.Lsh(n, 7).Add(n, big.NewInt(int64(x&127)))
	}
	if last > 0 && b[last] == 0 || !n.IsUint64() {
		return 0, 0, api.ErrCodec
	}
	return n.Uint64(), last + 1, api.OK
}

// eachBytes goes through all rows of so many bytes out of a few.
func eachBytes(of []byte, many int, do func([]byte)) {
	b := make([]byte, many)
	var fill func(at int)
	fill = func(at int) {
		if at == many {
			do(b)
			return
		}
		for _, x := range of {
			b[at] = x
			fill(at + 1)
		}
	}
	fill(0)
}

// P2.1: all short bytes, and those around ten of them.
func TestReadNumberAll(t *testing.T) {
	check := func(b []byte) {
		n, next, e := codec.ReadNumber(b, 0)
		wantN, wantNext, wantE := numberAt(b)
		if n != wantN || next != wantNext || e != wantE {
			t.Fatalf("ReadNumber(%v): %d %d %d, want %d %d %d", b, n, next, e, wantN, wantNext, wantE)
		}
	}
	all := make([]byte, 256)
	for i := range all {
		all[i] = byte(i)
	}
	eachBytes(all, 1, check)
	eachBytes(all, 2, check)
	for many := range 6 {
		eachBytes([]byte{0, 1, 127, 128, 129, 255}, many, check)
	}
	for ahead := 6; ahead <= 9; ahead++ {
		for many := range 4 {
			eachBytes([]byte{0, 1, 2, 3, 64, 127, 128, 129, 130, 255}, many, func(b []byte) {
				check(with(times(128, ahead), b))
				check(with(times(255, ahead), b))
			})
		}
	}
}

// P2.2
func TestText(t *testing.T) {
	cases := []string{"", "a", "ab", "\x00", "\xff\xfe", "\u00e9\u4e16", strings.Repeat("x", 127), strings.Repeat("y", 128), strings.Repeat("\x80", api.MaxText-1), strings.Repeat("z", api.MaxText)}
	for _, s := range cases {
		want := append(binary.AppendUvarint(nil, uint64(len(s))), s...)
		if b, e := codec.Text(s); !slices.Equal(b, want) || e != api.OK {
			t.Errorf("Text of %d bytes: %d, and %d bytes", len(s), e, len(b))
		}
		if back, next, e := codec.ReadText(want, 0); back != s || next != len(want) || e != api.OK {
			t.Errorf("ReadText of %d bytes: %q %d %d", len(s), back, next, e)
		}
	}
	if b, e := codec.Text("ab"); !slices.Equal(b, []byte{2, 97, 98}) || e != api.OK {
		t.Errorf("Text(ab): %v %d", b, e)
	}
	if s, next, e := codec.ReadText([]byte{1, 97, 98}, 0); s != "a" || next != 2 || e != api.OK {
		t.Errorf("ReadText(1 97 98): %q %d %d", s, next, e)
	}
	for _, many := range []int{api.MaxText + 1, api.MaxText + 2, 100000} {
		if b, e := codec.Text(strings.Repeat("x", many)); len(b) != 0 || e != api.ErrLong {
			t.Errorf("Text of %d bytes: %d, and %d bytes", many, e, len(b))
		}
	}
}

// P2.2
func TestReadTextWrong(t *testing.T) {
	cases := append(numberFaults(), []wrongCase{
		{[]byte{1}, 0, api.ErrShort}, {[]byte{2, 97}, 0, api.ErrShort}, {[]byte{128, 1, 97}, 0, api.ErrShort},
		{with(codec.Number(api.MaxText), times(97, api.MaxText-1)), 0, api.ErrShort},
		{codec.Number(api.MaxText), 0, api.ErrShort},
		// The limit is asked as soon as the number is read: ahead of what is missing.
		{codec.Number(api.MaxText + 1), 0, api.ErrLong},
		{with(codec.Number(api.MaxText+1), times(97, api.MaxText+1)), 0, api.ErrLong},
		{codec.Number(math.MaxInt64), 0, api.ErrLong}, {codec.Number(1 << 63), 0, api.ErrLong}, {codec.Number(math.MaxUint64), 0, api.ErrLong},
		{[]byte{129, 0, 97}, 0, api.ErrCodec},
	}...)
	checkFaults(t, "ReadText", cases, readsText)
}

// P2.3
func TestRow(t *testing.T) {
	many := make([]uint64, 5000)
	for i := range many {
		many[i] = uint64(i) * uint64(i) * 7919
	}
	cases := []struct {
		l    []uint64
		want []byte
	}{
		{nil, []byte{0}}, {[]uint64{}, []byte{0}}, {[]uint64{0}, []byte{1, 0}}, {[]uint64{1, 300}, []byte{2, 1, 172, 2}},
		{[]uint64{5, 3, 3, 0}, []byte{4, 5, 3, 3, 0}},
		{[]uint64{math.MaxUint64, 0}, with([]byte{2}, times(255, 9), []byte{1, 0})},
	}
	for _, l := range [][]uint64{numbers(), many, make([]uint64, 127), make([]uint64, 128)} {
		want := binary.AppendUvarint(nil, uint64(len(l)))
		for _, n := range l {
			want = binary.AppendUvarint(want, n)
		}
		cases = append(cases, struct {
			l    []uint64
			want []byte
		}{l, want})
	}
	for _, c := range cases {
		if b := codec.Row(c.l...); !slices.Equal(b, c.want) {
			t.Errorf("Row(%v): %v", c.l, b)
		}
		if l, next, e := codec.ReadRow(c.want, 0); !slices.Equal(l, c.l) || next != len(c.want) || e != api.OK {
			t.Errorf("ReadRow(%v): %v %d %d", c.want, l, next, e)
		}
	}
}

// P2.3
func TestReadRowWrong(t *testing.T) {
	cases := append(numberFaults(), []wrongCase{
		{[]byte{1}, 0, api.ErrShort}, {[]byte{9, 1}, 0, api.ErrShort}, {[]byte{7, 9, 1}, 1, api.ErrShort},
		{[]byte{1, 128}, 0, api.ErrShort}, {[]byte{2, 1, 128}, 0, api.ErrShort}, {[]byte{2, 128, 1}, 0, api.ErrShort},
		{codec.Number(math.MaxInt64), 0, api.ErrShort}, {codec.Number(1 << 63), 0, api.ErrShort},
		{with(codec.Number(math.MaxUint64), times(1, 100)), 0, api.ErrShort},
		// More numbers than bytes are left goes ahead of what is wrong with one of them; as many do not.
		{[]byte{3, 128, 0}, 0, api.ErrShort}, {[]byte{2, 128, 0}, 0, api.ErrCodec}, {[]byte{1, 128, 0}, 0, api.ErrCodec},
		{with([]byte{11}, times(128, 10)), 0, api.ErrShort}, {with([]byte{10}, times(128, 10)), 0, api.ErrCodec},
		{with(codec.Number(1<<63), []byte{128, 0}), 0, api.ErrShort}, {with(codec.Number(math.MaxUint64), []byte{128, 0}), 0, api.ErrShort},
		// The first part that is wrong tells.
		{[]byte{3, 128, 0, 128}, 0, api.ErrCodec}, {[]byte{3, 1, 2, 128}, 0, api.ErrShort},
		{with([]byte{1}, times(255, 9), []byte{2}), 0, api.ErrCodec}, {with([]byte{2, 5}, times(255, 9)), 0, api.ErrShort},
	}...)
	checkFaults(t, "ReadRow", cases, readsRow)
}

// P2.4
func TestSum(t *testing.T) {
	cases := []struct {
		b    []byte
		want uint32
	}{
		{nil, 1}, {[]byte{}, 1}, {[]byte{0}, 32}, {[]byte{1}, 33}, {[]byte{255}, 287}, {[]byte{0, 0}, 993}, {[]byte{1, 2}, 31*33 + 3},
	}
	for _, c := range cases {
		if s := codec.Sum(c.b); s != c.want {
			t.Errorf("Sum(%v): %d, want %d", c.b, s, c.want)
		}
	}
	// What wraps round, against numbers that do not.
	b := []byte{}
	whole, low := big.NewInt(1), big.NewInt(math.MaxUint32)
	for i := range 300 {
		x := byte(i * 37)
		b = append(b, x)
		whole.Mul(whole, big.NewInt(31)).Add(whole, big.NewInt(int64(x)+1))
		if s, want := codec.Sum(b), new(big.Int).And(whole, low).Uint64(); uint64(s) != want {
			t.Errorf("Sum of %d bytes: %d, want %d", len(b), s, want)
		}
	}
}

// framed is the chapter's frame of bytes.
func framed(b []byte) []byte {
	return binary.LittleEndian.AppendUint32(append(binary.AppendUvarint(nil, uint64(len(b))), b...), codec.Sum(b))
}

// P2.5
func TestFrame(t *testing.T) {
	cases := [][]byte{nil, {}, {0}, {1, 2, 3}, times(255, 127), times(7, 128), times(200, api.MaxFrame-1), times(255, api.MaxFrame)}
	for _, held := range cases {
		want := framed(held)
		if f, e := codec.Frame(held); !slices.Equal(f, want) || e != api.OK {
			t.Errorf("Frame of %d bytes: %d, and %d bytes", len(held), e, len(f))
		}
		if b, next, e := codec.ReadFrame(want, 0); !slices.Equal(b, held) || next != len(want) || e != api.OK {
			t.Errorf("ReadFrame of %d bytes: %d bytes, %d %d", len(held), len(b), next, e)
		}
	}
	if f, e := codec.Frame(nil); !slices.Equal(f, []byte{0, 1, 0, 0, 0}) || e != api.OK {
		t.Errorf("Frame of none: %v %d", f, e)
	}
	if f, e := codec.Frame([]byte{0}); !slices.Equal(f, []byte{1, 0, 32, 0, 0, 0}) || e != api.OK {
		t.Errorf("Frame(0): %v %d", f, e)
	}
	for _, many := range []int{api.MaxFrame + 1, api.MaxFrame + 2, 2 * api.MaxFrame} {
		if f, e := codec.Frame(make([]byte, many)); len(f) != 0 || e != api.ErrLong {
			t.Errorf("Frame of %d bytes: %d, and %d bytes", many, e, len(f))
		}
	}
}

// P2.5
func TestReadFrameWrong(t *testing.T) {
	great := times(9, api.MaxFrame+1)
	cases := append(numberFaults(), []wrongCase{
		{[]byte{0}, 0, api.ErrShort}, {[]byte{0, 1, 0, 0}, 0, api.ErrShort}, {[]byte{0, 9, 9, 9}, 0, api.ErrShort},
		{[]byte{2, 5}, 0, api.ErrShort}, {[]byte{1, 0, 32, 0, 0}, 0, api.ErrShort}, {[]byte{1, 0, 32, 0, 0, 0}, 6, api.ErrShort},
		{codec.Number(api.MaxFrame), 0, api.ErrShort},
		{codec.Number(api.MaxFrame + 1), 0, api.ErrLong}, {framed(great), 0, api.ErrLong},
		{codec.Number(math.MaxInt64), 0, api.ErrLong}, {codec.Number(1 << 63), 0, api.ErrLong}, {codec.Number(math.MaxUint64), 0, api.ErrLong},
		{[]byte{0, 0, 0, 0, 0}, 0, api.ErrSum}, {[]byte{0, 2, 0, 0, 0}, 0, api.ErrSum}, {[]byte{0, 0, 0, 0, 1}, 0, api.ErrSum},
		{[]byte{1, 1, 32, 0, 0, 0}, 0, api.ErrSum}, {[]byte{1, 0, 32, 0, 0, 1}, 0, api.ErrSum}, {[]byte{1, 0, 0, 0, 0, 32}, 0, api.ErrSum},
		{[]byte{129, 0, 0, 32, 0, 0, 0}, 0, api.ErrCodec},
	}...)
	checkFaults(t, "ReadFrame", cases, readsFrame)
}

// P2.5: no frame is read whose end is missing, or of which one byte of what it holds, or of the sum, is another one.
func TestReadFrameBroken(t *testing.T) {
	held := []byte("a frame of some bytes, \x00\x80\xff among them")
	f := framed(held)
	for end := range f {
		if zero, e := readsFrame(f[:end], 0); e != api.ErrShort || !zero {
			t.Errorf("ReadFrame of %d bytes: %d", end, e)
		}
	}
	for at := 1; at < len(f); at++ {
		for more := 1; more < 256; more++ {
			f[at] += byte(more)
			if zero, e := readsFrame(f, 0); e != api.ErrSum || !zero {
				t.Errorf("ReadFrame, %d more at %d: %d", more, at, e)
			}
			f[at] -= byte(more)
		}
	}
}
