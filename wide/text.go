package wide

import (
	"iter"

	"colander/api"
)

const (
	base      = 10
	maxDigits = 39 // those of 2^128 - 1
)

func Text(a api.Wide) string {
	var row [maxDigits]byte
	at := len(row)
	for d := range digits(a) {
		at--
		row[at] = '0' + d
	}
	return string(row[at:])
}

func Read(s string) (api.Wide, api.Errno) {
	// All of s is looked at ahead of the number: ErrArg goes ahead of ErrOverflow.
	if !isText(s) {
		return api.Wide{}, api.ErrArg
	}
	return checked(func() api.Wide { return value(s) })
}

// digits tells the last one first, as divisions leave them; of 0 it tells one, too.
func digits(a api.Wide) iter.Seq[byte] {
	return func(yield func(byte) bool) {
		rest, digit := divide(a, base)
		for yield(byte(digit)) && rest != (api.Wide{}) {
			rest, digit = divide(rest, base)
		}
	}
}

func isText(s string) bool {
	if s == "" || len(s) > 1 && s[0] == '0' {
		return false
	}
	for _, r := range s {
		if r < '0' || r > '9' {
			return false
		}
	}
	return true
}

func value(s string) api.Wide {
	var out api.Wide
	for _, r := range s {
		out = total(product(out, Of(base)), Of(uint64(r-'0')))
	}
	return out
}
