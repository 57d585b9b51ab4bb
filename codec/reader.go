package codec

import "colander/api"

// reader stands at a place of bytes; each of its steps reads a part, and leaves it behind.
type reader struct {
	b  []byte
	at int
}

// fault is what a step panics with, so that steps can be nested without an error handed on from each.
type fault api.Errno

// take turns the panic of a fault into its error; any other panic is a fault of this package itself, and goes on.
func take[T any](r *reader, step func() T) (out T, next int, e api.Errno) {
	defer func() {
		caught := recover()
		if caught == nil {
			return
		}
		f, ok := caught.(fault)
		if !ok {
			panic(caught)
		}
		e = api.Errno(f)
	}()
	if r.at < 0 || r.at > len(r.b) {
		panic(fault(api.ErrArg))
	}
	out = step()
	return out, r.at, api.OK
}

func (r *reader) number() uint64 {
	var n uint64
	var last byte
	many := 0
number:
	for {
		last = r.cut(1)[0]
		n |= uint64(last%more) << (septet * many)
		many++
		switch {
		case last < more:
			break number
		case many == maxBytes:
			// Whatever comes behind, the number has more bytes than it may: so this goes ahead of bytes that end.
			panic(fault(api.ErrCodec))
		}
	}
	if many > 1 && last == 0 || many == maxBytes && last > 1 {
		panic(fault(api.ErrCodec))
	}
	return n
}

func (r *reader) text() string {
	return string(r.counted(api.MaxText))
}

func (r *reader) row() []uint64 {
	many := r.number()
	r.need(many)
	var out []uint64
	for range many {
		out = append(out, r.number())
	}
	return out
}

func (r *reader) frame() []byte {
	held := r.counted(api.MaxFrame)
	if r.sum() != Sum(held) {
		panic(fault(api.ErrSum))
	}
	out := make([]byte, len(held))
	copy(out, held)
	return out
}

func (r *reader) sum() uint32 {
	var out uint32
	for i, x := range r.cut(sumBytes) {
		out |= uint32(x) << (octet * i)
	}
	return out
}

// counted holds the limit against what is said, ahead of what is there: ErrLong goes ahead of ErrShort.
func (r *reader) counted(limit uint64) []byte {
	many := r.number()
	if many > limit {
		panic(fault(api.ErrLong))
	}
	return r.cut(many)
}

// cut's part has no room behind it: nothing that is put there could reach what was handed in.
func (r *reader) cut(many uint64) []byte {
	r.need(many)
	from := r.at
	r.at += int(many)
	return r.b[from:r.at:r.at]
}

func (r *reader) need(many uint64) {
	if many > uint64(len(r.b)-r.at) {
		panic(fault(api.ErrShort))
	}
}
