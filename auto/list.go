package auto

import "cognate/api"

// ofWords is the machine of words in their row: its states are their beginnings.
func ofWords(numbers map[rune]int, l []string) (machine, api.Errno) {
	m := newMachine(1)
	for _, w := range l {
		at := 0
		for _, r := range w {
			// In the row a beginning that was there is the last one that was added.
			ways, letter := m.ways[at], numbers[r]
			if len(ways) > 0 && ways[len(ways)-1].letter == letter {
				at = ways[len(ways)-1].to
				continue
			}
			next := len(m.isEnd)
			if next == api.MaxStates {
				return machine{}, api.ErrCap
			}
			m.addState(false)
			m.addWay(at, letter, next)
			at = next
		}
		m.isEnd[at] = true
	}
	return m, api.OK
}
