package auto

import "cognate/api"

// arc is a way with the state from which it goes.
type arc struct {
	from int
	way[int]
}

// least is a machine's least form; it has one way at most for each state and letter, by rising letters.
func (m machine) least() (machine, api.Errno) {
	arcs := m.alive()
	classes := m.classes(arcs)
	ways := make([][]way[int], len(m.isEnd))
	for _, x := range arcs {
		ways[x.from] = append(ways[x.from], way[int]{x.letter, classes.blockOf[x.to]})
	}
	behind := func(class int) []way[int] { return ways[classes.members(class)[0]] }
	isEnd := func(class int) bool { return m.isEnd[classes.members(class)[0]] }
	return explore(classes.blockOf[0], behind, isEnd)
}

// alive is the ways of a machine behind which words end, in order.
func (m machine) alive() []arc {
	var all []arc
	for from, ways := range m.ways {
		for _, w := range ways {
			all = append(all, arc{from, w})
		}
	}
	into := m.into(all)
	alive := make([]bool, len(m.isEnd))
	var work []int
	reach := func(n int) {
		if !alive[n] {
			alive[n] = true
			work = append(work, n)
		}
	}
	for n, is := range m.isEnd {
		if is {
			reach(n)
		}
	}
	for at := 0; at < len(work); at++ {
		for _, i := range into[work[at]] {
			reach(all[i].from)
		}
	}
	var l []arc
	for _, x := range all {
		if alive[x.to] {
			l = append(l, x)
		}
	}
	return l
}

// into is for each state the numbers of the arcs that go to it.
func (m machine) into(arcs []arc) [][]int {
	l := make([][]int, len(m.isEnd))
	for i, x := range arcs {
		l[x.to] = append(l[x.to], i)
	}
	return l
}

// classes puts those states together behind which the same words can follow.
// (States and arcs are cut by one another, always by the lesser part, so that long chains do not take long: Valmari, Fast brief practical DFA minimization, 2012.)
func (m machine) classes(arcs []arc) *partition {
	states := newPartition(len(m.isEnd))
	for n, is := range m.isEnd {
		if is {
			states.mark(n)
		}
	}
	states.cut()
	into := m.into(arcs)
	groups := byLetter(arcs)
	// By the first block of states nothing need be cut: what leads to no other one leads to it.
	done := 1
	for group := 0; group < groups.size(); group++ {
		for _, i := range groups.members(group) {
			states.mark(arcs[i].from)
		}
		states.cut()
		for ; done < states.size(); done++ {
			for _, n := range states.members(done) {
				for _, i := range into[n] {
					groups.mark(i)
				}
			}
			groups.cut()
		}
	}
	return states
}

// byLetter puts those arcs together that have the same letter.
func byLetter(arcs []arc) *partition {
	var l [api.MaxLetters][]int
	for i, x := range arcs {
		l[x.letter] = append(l[x.letter], i)
	}
	groups := newPartition(len(arcs))
	for _, same := range l {
		for _, i := range same {
			groups.mark(i)
		}
		groups.cut()
	}
	return groups
}
