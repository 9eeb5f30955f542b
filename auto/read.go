package auto

import (
	"cognate/api"
	"cognate/word"
)

// read is an automaton as a machine, if it may be: a state may have several ways by one letter.
func read(a api.Alphabet, x api.Auto) (machine, api.Errno) {
	// The empty word has no error but that of its alphabet.
	if e := word.Check(a, ""); e != api.OK {
		return machine{}, e
	}
	if x.States < 1 || x.States > api.MaxStates || len(x.Moves) > api.MaxArcs {
		return machine{}, api.ErrAuto
	}
	m := newMachine(x.States)
	if !m.readEnds(x.Ends) || !m.readMoves(numbersOf(a), x.Moves) {
		return machine{}, api.ErrAuto
	}
	return m, api.OK
}

// readEnds makes states ends; false: one is no state, or they do not rise.
func (m machine) readEnds(ends []int) bool {
	last := -1
	for _, n := range ends {
		if n <= last || n >= len(m.isEnd) {
			return false
		}
		m.isEnd[n] = true
		last = n
	}
	return true
}

// readMoves makes moves ways; false: one is none of this alphabet and these states, or stands there twice.
func (m machine) readMoves(numbers map[rune]int, moves []api.Move) bool {
	seen := map[api.Move]struct{}{}
	for _, x := range moves {
		letter, isLetter := numbers[x.Rune]
		if !isLetter || !m.isState(x.From) || !m.isState(x.To) {
			return false
		}
		seen[x] = struct{}{}
		m.addWay(x.From, letter, x.To)
	}
	return len(seen) == len(moves)
}

// numbersOf is the number of each letter in the alphabet's order.
func numbersOf(a api.Alphabet) map[rune]int {
	numbers := map[rune]int{}
	for i, x := range a.Letters {
		numbers[x.Rune] = i
	}
	return numbers
}

// text is the word of the letters with these numbers.
func text(a api.Alphabet, letters []int) string {
	l := make([]rune, len(letters))
	for i, n := range letters {
		l[i] = a.Letters[n].Rune
	}
	return string(l)
}
