// Package wide is layer 1: see 01-wide.md.
package wide

import (
	"cmp"

	"colander/api"
)

func Of(n uint64) api.Wide {
	return api.Wide{Lo: n}
}

func Compare(a, b api.Wide) int {
	if a.Hi != b.Hi {
		return cmp.Compare(a.Hi, b.Hi)
	}
	return cmp.Compare(a.Lo, b.Lo)
}

func Add(a, b api.Wide) (api.Wide, api.Errno) {
	return Sum(a, b)
}

func Sub(a, b api.Wide) (api.Wide, api.Errno) {
	return checked(func() api.Wide { return difference(a, b) })
}

func Mul(a, b api.Wide) (api.Wide, api.Errno) {
	return checked(func() api.Wide { return product(a, b) })
}

func Div(a api.Wide, by uint64) (api.Wide, uint64, api.Errno) {
	if by == 0 {
		return api.Wide{}, 0, api.ErrArg
	}
	times, left := divide(a, by)
	return times, left, api.OK
}

func Power(a api.Wide, n int) (api.Wide, api.Errno) {
	if n < 0 {
		return api.Wide{}, api.ErrArg
	}
	return checked(func() api.Wide { return power(a, n) })
}

func Sum(l ...api.Wide) (api.Wide, api.Errno) {
	return checked(func() api.Wide { return total(l...) })
}
