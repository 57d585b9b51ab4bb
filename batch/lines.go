package batch

import (
	"iter"
	"strings"

	"colander/api"
)

const (
	blank = ' '
	quote = `"`
	feed  = "\n"

	mostWords = 4 // of a line
)

// lines tells the lines of a text without their line feeds, each with whether one stands behind it.
func lines(s string) iter.Seq2[string, bool] {
	return func(yield func(string, bool) bool) {
		rest := s
		for rest != "" {
			line, behind, ended := strings.Cut(rest, feed)
			if !yield(line, ended) {
				return
			}
			rest = behind
		}
	}
}

// words cuts a line at its blanks, but the last word that it may have is all the rest: a value has blanks of its own.
func words(line string) []string {
	var out []string
	from := 0
	for at := range len(line) {
		if line[at] == blank && len(out) < mostWords-1 {
			out = append(out, line[from:at])
			from = at + 1
		}
	}
	return append(out, line[from:])
}

// lineOf is asked of changes that may be alone.
func lineOf(c api.Change) string {
	k, l := kinds()[c.Kind], partsOf(c)
	out := k.word
	for _, p := range k.has {
		out += string(blank) + p.word(l[p])
	}
	return out
}

// said is the change that a line says, if it says one.
func said(line string) (api.Change, bool) {
	l := words(line)
	n, k := spelt(l[0])
	if !isKind(n) || len(l) != 1+len(k.has) {
		return api.Change{}, false
	}
	d := &draft{api.Change{Kind: n}}
	puts := d.puts()
	for i, p := range k.has {
		s, ok := p.read(l[1+i])
		if !ok || !k.allows(p, s) {
			return api.Change{}, false
		}
		puts[p](s)
	}
	return d.Change, true
}

// spelt is the kind whose lines begin with a word, and its number; 0: there is none.
func spelt(word string) (int, kind) {
	for n, k := range kinds() {
		if isKind(n) && k.word == word {
			return n, k
		}
	}
	return 0, kind{}
}

// word is how a line tells a part.
func (p part) word(s string) string {
	if p == ofValue {
		return quote + s + quote
	}
	return s
}

// read is what a line's word tells of a part; false: it does not stand there as such a part does.
func (p part) read(word string) (string, bool) {
	if p != ofValue {
		return word, true
	}
	s, begun := strings.CutPrefix(word, quote)
	s, ended := strings.CutSuffix(s, quote)
	return s, begun && ended
}

// draft is a change that gets its parts one by one: each a copy, so that it does not keep the text that was handed in.
type draft struct {
	api.Change
}

// puts are, of each part, what puts it where it goes.
func (d *draft) puts() [parts]func(string) {
	return [parts]func(string){ofKey: d.key, ofName: d.name, ofValue: d.value, ofTo: d.to}
}

func (d *draft) key(s string) {
	d.Key = strings.Clone(s)
}

func (d *draft) name(s string) {
	d.Name = strings.Clone(s)
}

func (d *draft) value(s string) {
	d.Value = strings.Clone(s)
}

func (d *draft) to(s string) {
	d.To = strings.Clone(s)
}
