package wide

import (
	"math/bits"

	"colander/api"
)

// overflow is what a reckoning panics with, so that its steps can be nested without an error handed on from each.
type overflow struct{}

// checked turns the panic of a number that can't be into its error; any other panic is a fault of this package, and goes on.
func checked(reckon func() api.Wide) (out api.Wide, e api.Errno) {
	defer func() {
		caught := recover()
		if caught == nil {
			return
		}
		if _, ok := caught.(overflow); !ok {
			panic(caught)
		}
		e = api.ErrOverflow
	}()
	return reckon(), api.OK
}

// total may stop at the first sum that is too great: nothing makes it less again.
func total(l ...api.Wide) api.Wide {
	var out api.Wide
	for _, a := range l {
		lo, carry := bits.Add64(out.Lo, a.Lo, 0)
		hi, over := bits.Add64(out.Hi, a.Hi, carry)
		if over != 0 {
			panic(overflow{})
		}
		out = api.Wide{Hi: hi, Lo: lo}
	}
	return out
}

func difference(a, b api.Wide) api.Wide {
	lo, borrow := bits.Sub64(a.Lo, b.Lo, 0)
	hi, below := bits.Sub64(a.Hi, b.Hi, borrow)
	if below != 0 {
		panic(overflow{})
	}
	return api.Wide{Hi: hi, Lo: lo}
}

func product(a, b api.Wide) api.Wide {
	if a.Hi != 0 && b.Hi != 0 {
		panic(overflow{})
	}
	hi, lo := bits.Mul64(a.Lo, b.Lo)
	return total(api.Wide{Hi: hi, Lo: lo}, raised(a.Hi, b.Lo), raised(a.Lo, b.Hi))
}

// raised is the product of two numbers, 2^64 times.
func raised(a, b uint64) api.Wide {
	hi, lo := bits.Mul64(a, b)
	if hi != 0 {
		panic(overflow{})
	}
	return api.Wide{Hi: lo}
}

// divide goes by halves: what is left of the upper one is less than by, as Div64 asks.
func divide(a api.Wide, by uint64) (api.Wide, uint64) {
	lo, left := bits.Div64(a.Hi%by, a.Lo, by)
	return api.Wide{Hi: a.Hi / by, Lo: lo}, left
}

// power squares a only while a power of that square is still to be multiplied in: so a square that is too great means a power that is.
func power(a api.Wide, n int) api.Wide {
	out := Of(1)
again:
	if n%2 == 1 {
		out = product(out, a)
	}
	n /= 2
	if n > 0 {
		a = product(a, a)
		goto again
	}
	return out
}
