package table

import (
	"iter"

	"colander/api"
)

// look is a table that can be asked for what it has.
type look struct {
	api.Table
}

// asked holds a table against the chapter ahead of the question: of one that may not be, no slot need be free, or tell a text.
func asked[Q, A any](t api.Table, question func(Q) (A, api.Errno), about Q) (A, api.Errno) {
	if Check(t) != api.OK {
		var none A
		return none, api.ErrTable
	}
	return question(about)
}

func (k look) number(s string) (int, api.Errno) {
	n := k.Slots[k.seat(s)] - 1
	if n < 0 {
		return 0, api.ErrNone
	}
	return n, api.OK
}

func (k look) text(n int) (string, api.Errno) {
	if n < 0 || n >= len(k.Texts) {
		return "", api.ErrNone
	}
	return k.Texts[n], api.OK
}

func (k look) sized() bool {
	many := len(k.Slots)
	return len(k.Texts) <= api.MaxTexts && many >= leastSlots && many&(many-1) == 0 && many >= 2*len(k.Texts)
}

// filled tells whether as many slots are taken as there are texts, by numbers of texts alone.
func (k look) filled() bool {
	taken := 0
	for _, n := range k.Slots {
		if n < 0 || n > len(k.Texts) {
			return false
		}
		if n > 0 {
			taken++
		}
	}
	return taken == len(k.Texts)
}

// found tells whether each text is found by its number. Of what is filled that says it all: no number stands twice, and no two texts are alike.
func (k look) found() bool {
	for n, s := range k.Texts {
		if k.Slots[k.seat(s)] != n+1 {
			return false
		}
	}
	return true
}

// seat tells the first of a text's slots that is free, or has the text. It is asked of what is sized and filled alone: there a free one is.
func (k look) seat(s string) int {
	out := 0
slots:
	for at := range k.slots(s) {
		out = at
		if n := k.Slots[at]; n == 0 || k.Texts[n-1] == s {
			break slots
		}
	}
	return out
}

func (k look) slots(s string) iter.Seq[int] {
	return func(yield func(int) bool) {
		many := len(k.Slots)
		first := int(Hash(s) % uint64(many))
		for i := range many {
			if !yield((first + i) % many) {
				return
			}
		}
	}
}
