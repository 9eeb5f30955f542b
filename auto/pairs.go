package auto

import "cognate/api"

// pair is a state of each of two machines.
type pair [2]int

// nowhere is the state of a machine that has no way by a letter; none leads out of it.
const nowhere = -1

// both is the machine of the words that two take.
func both(x, y machine) (machine, api.Errno) {
	behind := func(at pair) []way[pair] {
		var l []way[pair]
		for _, w := range together(x, y, at) {
			if w.to[0] != nowhere && w.to[1] != nowhere {
				l = append(l, w)
			}
		}
		return l
	}
	return explore(pair{}, behind, func(at pair) bool { return x.ends(at[0]) && y.ends(at[1]) })
}

// either is the machine of the words that one of two takes.
func either(x, y machine) (machine, api.Errno) {
	behind := func(at pair) []way[pair] { return together(x, y, at) }
	return explore(pair{}, behind, func(at pair) bool { return x.ends(at[0]) || y.ends(at[1]) })
}

// together is the ways of two states: by each letter by which one of them has one.
func together(x, y machine, at pair) []way[pair] {
	l, m := x.from(at[0]), y.from(at[1])
	var all []way[pair]
	for len(l) > 0 || len(m) > 0 {
		w := way[pair]{first(l, m), pair{nowhere, nowhere}}
		if len(l) > 0 && l[0].letter == w.letter {
			w.to[0] = l[0].to
			l = l[1:]
		}
		if len(m) > 0 && m[0].letter == w.letter {
			w.to[1] = m[0].to
			m = m[1:]
		}
		all = append(all, w)
	}
	return all
}

// first is the first letter of two lists of ways, of which one has some.
func first(l, m []way[int]) int {
	if len(l) == 0 {
		return m[0].letter
	}
	if len(m) == 0 {
		return l[0].letter
	}
	return min(l[0].letter, m[0].letter)
}

// ends tells whether a state is an end, if it is one.
func (m machine) ends(state int) bool { return state != nowhere && m.isEnd[state] }

// from is a state's ways, if it is one.
func (m machine) from(state int) []way[int] {
	if state == nowhere {
		return nil
	}
	return m.ways[state]
}

// not is the machine of the words that one does not take, of that many letters.
func (m machine) not(letters int) (machine, api.Errno) {
	sink := len(m.isEnd)
	if sink+1 > api.MaxStates || (sink+1)*letters > api.MaxArcs {
		return machine{}, api.ErrCap
	}
	out := newMachine(sink + 1)
	for n := range sink + 1 {
		out.isEnd[n] = n == sink || !m.isEnd[n]
		to := make([]int, letters)
		for letter := range to {
			to[letter] = sink
		}
		if n < sink {
			for _, w := range m.ways[n] {
				to[w.letter] = w.to
			}
		}
		for letter, next := range to {
			out.addWay(n, letter, next)
		}
	}
	return out, api.OK
}
