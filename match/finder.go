package match

import (
	"cognate/api"
	"cognate/pattern"
	"cognate/word"
)

// spot is a node of a pattern at a place of a word.
type spot struct{ node, place int }

// finder looks where a pattern lies in a word.
type finder struct {
	nodes   []api.Node
	letters []rune
	found   map[spot]places // the places to which a node lies from a place
}

// newFinder is a pattern's and a word's, if both may be.
func newFinder(a api.Alphabet, p api.Pattern, w string) (*finder, api.Errno) {
	if e := pattern.Check(a, p); e != api.OK {
		return nil, e
	}
	letters, e := word.Letters(a, w)
	if e != api.OK {
		return nil, e
	}
	f := &finder{nodes: p.Nodes, letters: letters, found: map[spot]places{}}
	for number, n := range p.Nodes {
		if n.Kind != api.PatClass {
			continue
		}
		l, e := word.Peaks(a, w, n.Plus, n.Minus)
		if e != api.OK {
			return nil, e
		}
		for _, from := range l {
			f.found[spot{number, from}] = only(from + 1)
		}
	}
	return f, api.OK
}

// isPlace tells whether a number is a place of the word.
func (f *finder) isPlace(n int) bool { return n >= 0 && n <= len(f.letters) }

// lies tells whether the pattern lies from a place to another one.
func (f *finder) lies(from, to int) bool { return f.ends(0, from).has(to) }

// begins is the places from which the pattern lies to one.
func (f *finder) begins(to int) places {
	var l places
	for from := range to + 1 {
		if f.lies(from, to) {
			l = l.and(only(from))
		}
	}
	return l
}

// spans is the longest span at each place, none over another one: the first ones, at most that many.
func (f *finder) spans(most int) []api.Span {
	var l []api.Span
	from := 0
looking:
	for f.isPlace(from) && len(l) < most {
		ends := f.ends(0, from)
		for to := len(f.letters); to >= from; to-- {
			if ends.has(to) {
				l = append(l, api.Span{From: from, To: to})
				// Behind a span without letters its own place is not looked at again.
				from = max(from+1, to)
				continue looking
			}
		}
		from++
	}
	return l
}

// ends is the places to which the node of that number lies from a place.
func (f *finder) ends(number, from int) places {
	at := spot{number, from}
	if l, ok := f.found[at]; ok {
		return l
	}
	l := f.look(f.nodes[number], from)
	f.found[at] = l
	return l
}

// look finds out the places to which a node lies from a place.
func (f *finder) look(n api.Node, from int) places {
	switch n.Kind {
	case api.PatEmpty:
		return only(from)
	case api.PatRune, api.PatAny:
		return f.letter(n, from)
	case api.PatEdge:
		return f.edge(from)
	case api.PatSeq:
		return f.seq(n.Kids, from)
	case api.PatOr:
		return f.or(n.Kids, from)
	case api.PatStar:
		return f.star(n.Kids[0], from)
	case api.PatOpt:
		return only(from).and(f.ends(n.Kids[0], from))
	}
	// Where a letter has a PatClass's class was found at the beginning.
	return places{}
}

// letter is the place behind the letter at a place, if a PatRune or a PatAny is like it.
func (f *finder) letter(n api.Node, from int) places {
	if from == len(f.letters) || n.Kind == api.PatRune && n.Rune != f.letters[from] {
		return places{}
	}
	return only(from + 1)
}

// edge is a place, if the word begins or ends there.
func (f *finder) edge(from int) places {
	if from != 0 && from != len(f.letters) {
		return places{}
	}
	return only(from)
}

// seq is the places to which kids lie from a place, one behind the other.
func (f *finder) seq(kids []int, from int) places {
	l := only(from)
	for _, k := range kids {
		var next places
		for at := from; f.isPlace(at); at++ {
			if l.has(at) {
				next = next.and(f.ends(k, at))
			}
		}
		l = next
	}
	return l
}

// or is the places to which one of the kids lies from a place.
func (f *finder) or(kids []int, from int) places {
	var l places
	for _, k := range kids {
		l = l.and(f.ends(k, from))
	}
	return l
}

// star is the places to which a kid lies from a place, any number of times.
func (f *finder) star(kid, from int) places {
	l := only(from)
	// No kid lies backwards: once a place is gone by, none ahead of it is added.
	for at := from; f.isPlace(at); at++ {
		if l.has(at) {
			l = l.and(f.ends(kid, at))
		}
	}
	return l
}
