package auto

import (
	"slices"

	"cognate/api"
)

// mostWords is up to how many words Count counts.
const mostWords = 1 << 40

// words are the letters' numbers of the first words that a least form takes: at most that many, of at most MaxForm letters.
func (m machine) words(most int) [][]int {
	// By can[n] a state has words of just n letters.
	can := []states{m.ended()}
	var l [][]int
	for n := 0; n <= api.MaxForm && len(l) < most && can[n] != (states{}); n++ {
		l = m.wordsOf(l, can, most)
		can = append(can, m.ahead(can[n]))
	}
	return l
}

// wordsOf puts the words of just len(can)-1 letters behind l, up to that many in all.
func (m machine) wordsOf(l [][]int, can []states, most int) [][]int {
	var word []int
	var look func(state int)
	look = func(state int) {
		left := len(can) - 1 - len(word)
		if len(l) == most || !has(can[left][:], state) {
			return
		}
		if left == 0 {
			l = append(l, slices.Clone(word))
			return
		}
		for _, w := range m.ways[state] {
			word = append(word, w.letter)
			look(w.to)
			word = word[:len(word)-1]
		}
	}
	look(0)
	return l
}

// ended is the ends.
func (m machine) ended() states {
	var l states
	for n, is := range m.isEnd {
		if is {
			put(l[:], n)
		}
	}
	return l
}

// ahead is the states that have a way to one of some.
func (m machine) ahead(l states) states {
	var out states
	for n, ways := range m.ways {
		if slices.ContainsFunc(ways, func(w way[int]) bool { return has(l[:], w.to) }) {
			put(out[:], n)
		}
	}
	return out
}

// count is how many words of that many letters a machine takes, with one way at most for each state and letter: beyond mostWords some number beyond it.
func (m machine) count(long int) int {
	counts := make([]int, len(m.isEnd))
	for n, is := range m.isEnd {
		if is {
			counts[n] = 1
		}
	}
	for range long {
		counts = m.countAhead(counts)
	}
	return counts[0]
}

// countAhead is how many words each state has that are by a letter longer than those that are counted.
func (m machine) countAhead(counts []int) []int {
	out := make([]int, len(counts))
	for n, ways := range m.ways {
		for _, w := range ways {
			out[n] = min(out[n]+counts[w.to], mostWords+1)
		}
	}
	return out
}
