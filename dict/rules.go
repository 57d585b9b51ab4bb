package dict

import "colander/api"

// rule is what a kind allows its names.
type rule struct {
	least, most int
	has         func(r rune) bool
}

func rules() [api.DiKinds]rule {
	key := rule{least: 1, most: api.MaxName, has: inKey}
	return [api.DiKinds]rule{
		api.DiNode:  key,
		api.DiLabel: key,
		api.DiType:  key,
		api.DiProp:  key,
		api.DiValue: {most: api.MaxWorth, has: inValue},
	}
}

// allow goes over runes, though bytes are asked for: no kind allows a byte from 128 on, and all else that is a rune is a byte.
func (k rule) allow(s string) bool {
	if len(s) < k.least || len(s) > k.most {
		return false
	}
	for _, r := range s {
		if !k.has(r) {
			return false
		}
	}
	return true
}

func inKey(r rune) bool {
	return r >= 'a' && r <= 'z' || r >= '0' && r <= '9' || r == '_'
}

func inValue(r rune) bool {
	return r >= ' ' && r <= '~' && r != '"' && r != '\\'
}

func isKind(kind int) bool {
	return kind >= 0 && kind < api.DiKinds
}
