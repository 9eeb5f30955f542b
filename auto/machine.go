package auto

import "cognate/api"

// way is a letter's number in the alphabet's order, and where one comes by it.
type way[S comparable] struct {
	letter int
	to     S
}

// machine is states by their numbers, 0 the first one: whether each is an end, and its ways.
type machine struct {
	isEnd []bool
	ways  [][]way[int]
}

// newMachine has that many states, and no ways.
func newMachine(states int) machine {
	return machine{make([]bool, states), make([][]way[int], states)}
}

// explore makes situations a machine's states: the first one, and all to which one comes from there, as they come.
// behind tells a situation's ways, one for each letter at most, by rising letters.
func explore[S comparable](first S, behind func(at S) []way[S], isEnd func(at S) bool) (machine, api.Errno) {
	var m machine
	numbers := map[S]int{}
	var work []S
	number := func(s S) (int, bool) {
		n, known := numbers[s]
		if !known {
			n = len(work)
			numbers[s] = n
			work = append(work, s)
			m.addState(isEnd(s))
		}
		return n, n < api.MaxStates
	}
	number(first)
	steps := 0
	for from := 0; from < len(work); from++ {
		for _, w := range behind(work[from]) {
			to, may := number(w.to)
			steps++
			if !may || steps > api.MaxArcs {
				return machine{}, api.ErrCap
			}
			m.addWay(from, w.letter, to)
		}
	}
	return m, api.OK
}

// isState tells whether a number is a state's.
func (m machine) isState(n int) bool { return n >= 0 && n < len(m.isEnd) }

// addState adds a state without ways.
func (m *machine) addState(isEnd bool) {
	m.isEnd = append(m.isEnd, isEnd)
	m.ways = append(m.ways, nil)
}

// addWay adds a way.
func (m machine) addWay(from, letter, to int) {
	m.ways[from] = append(m.ways[from], way[int]{letter, to})
}

// answer is the least form of the words that a machine takes, which has one way at most for each state and letter.
func answer(a api.Alphabet, m machine, e api.Errno) (api.Auto, api.Errno) {
	if e != api.OK {
		return api.Auto{}, e
	}
	m, e = m.least()
	if e != api.OK {
		return api.Auto{}, e
	}
	return m.auto(a), api.OK
}

// auto is a machine as an automaton.
func (m machine) auto(a api.Alphabet) api.Auto {
	x := api.Auto{States: len(m.isEnd)}
	for from, ways := range m.ways {
		if m.isEnd[from] {
			x.Ends = append(x.Ends, from)
		}
		for _, w := range ways {
			x.Moves = append(x.Moves, api.Move{From: from, To: w.to, Rune: a.Letters[w.letter].Rune})
		}
	}
	return x
}
