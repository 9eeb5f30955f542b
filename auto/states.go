package auto

import (
	"slices"

	"cognate/api"
)

// states are some states of a machine: a bit for each.
type states [api.MaxStates / wordBits]uint64

// onlyState is one state alone.
func onlyState(n int) states {
	var l states
	put(l[:], n)
	return l
}

// form is the least form of the words that a machine takes.
func (m machine) form() (machine, api.Errno) {
	m, e := m.single()
	if e != api.OK {
		return machine{}, e
	}
	return m.least()
}

// forms is the least forms of two automata; both are checked first.
func forms(a api.Alphabet, x, y api.Auto) (l, m machine, e api.Errno) {
	l, e = read(a, x)
	if e == api.OK {
		m, e = read(a, y)
	}
	if e == api.OK {
		l, e = l.form()
	}
	if e == api.OK {
		m, e = m.form()
	}
	return l, m, e
}

// single is a machine that takes the same words, with one way at most for each state and letter: its states are sets of the old ones.
func (m machine) single() (machine, api.Errno) {
	isEnd := func(at states) bool { return m.anyEnd(list(at[:])) }
	return explore(onlyState(0), m.behind(), isEnd)
}

// behind tells of some states, for each letter, the states to which they come by it.
func (m machine) behind() func(at states) []way[states] {
	// The sets by letters are used again for each set of states: they are large.
	var reached [api.MaxLetters]states
	return func(at states) []way[states] {
		var letters [api.MaxLetters / wordBits]uint64
		for _, n := range list(at[:]) {
			for _, w := range m.ways[n] {
				put(letters[:], w.letter)
				put(reached[w.letter][:], w.to)
			}
		}
		var l []way[states]
		for _, letter := range list(letters[:]) {
			l = append(l, way[states]{letter, reached[letter]})
			reached[letter] = states{}
		}
		return l
	}
}

// anyEnd tells whether one of some states is an end.
func (m machine) anyEnd(l []int) bool {
	return slices.ContainsFunc(l, func(n int) bool { return m.isEnd[n] })
}

// takes tells whether some way goes along letters to an end.
func (m machine) takes(numbers map[rune]int, letters []rune) bool {
	at := onlyState(0)
	for _, r := range letters {
		var next states
		for _, n := range list(at[:]) {
			for _, w := range m.ways[n] {
				if w.letter == numbers[r] {
					put(next[:], w.to)
				}
			}
		}
		at = next
	}
	return m.anyEnd(list(at[:]))
}
