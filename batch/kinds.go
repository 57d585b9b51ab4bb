package batch

import (
	"slices"

	"colander/api"
)

// part is what a change may have beside its kind.
type part int

const (
	ofKey part = iota
	ofName
	ofValue
	ofTo
	parts // how many there are
)

// kind is what changes of a kind have: the word that begins their line, and the parts behind it, in the line's order.
type kind struct {
	word string
	has  []part
}

func kinds() [api.ChUnlink + 1]kind {
	return [...]kind{
		api.ChAdd:     {"add", []part{ofKey}},
		api.ChDrop:    {"drop", []part{ofKey}},
		api.ChLabel:   {"label", []part{ofKey, ofName}},
		api.ChUnlabel: {"unlabel", []part{ofKey, ofName}},
		api.ChSet:     {"set", []part{ofKey, ofName, ofValue}},
		api.ChUnset:   {"unset", []part{ofKey, ofName}},
		api.ChLink:    {"link", []part{ofKey, ofName, ofTo}},
		api.ChUnlink:  {"unlink", []part{ofKey, ofName, ofTo}},
	}
}

func isKind(n int) bool {
	return n >= api.ChAdd && n <= api.ChUnlink
}

// allows tells whether a text may be that part of such a change: what the kind has not is empty.
func (k kind) allows(p part, s string) bool {
	switch {
	case !slices.Contains(k.has, p):
		return s == ""
	case p == ofValue:
		return Value(s)
	}
	return Name(s)
}

func partsOf(c api.Change) [parts]string {
	return [parts]string{ofKey: c.Key, ofName: c.Name, ofValue: c.Value, ofTo: c.To}
}

// made tells whether a text has as many bytes as it may, and each of them may be.
func made(s string, least, most int, may func(byte) bool) bool {
	if len(s) < least || len(s) > most {
		return false
	}
	for i := range len(s) {
		if !may(s[i]) {
			return false
		}
	}
	return true
}
