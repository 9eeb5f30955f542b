package match

import "cognate/api"

// wordBits is how many places one number keeps.
const wordBits = 64

// places are some places of a word: a bit for each.
type places [api.MaxWord/wordBits + 1]uint64

// only is one place alone.
func only(place int) places {
	var l places
	l[place/wordBits] = 1 << (place % wordBits)
	return l
}

// and is these places, and others.
func (l places) and(others places) places {
	for i, bits := range others {
		l[i] |= bits
	}
	return l
}

// has tells whether a place is one of these.
func (l places) has(place int) bool { return l[place/wordBits]>>(place%wordBits)&1 == 1 }

// areNone tells whether there are no places.
func (l places) areNone() bool { return l == places{} }

// list is the places' numbers, rising.
func (l places) list() []int {
	var out []int
	for place := range api.MaxWord + 1 {
		if l.has(place) {
			out = append(out, place)
		}
	}
	return out
}
