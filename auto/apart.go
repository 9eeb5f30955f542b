package auto

import "slices"

// meeting is a pair of states to which both machines come by some letters: from an earlier one by that letter.
type meeting struct {
	way[pair]
	earlier int
}

// apart is the letters' numbers of the first word that just one of two machines takes; false: there is none.
func apart(x, y machine) ([]int, bool) {
	alike := newKin(len(x.isEnd) + len(y.isEnd) + 1)
	// Numbers of kin: nowhere is 0, x's states stand behind it, then y's. Nowhere is the same in both.
	meets := func(at pair) bool {
		n := at[1] + 1
		if at[1] != nowhere {
			n += len(x.isEnd)
		}
		return alike.join(at[0]+1, n)
	}
	meets(pair{})
	work := []meeting{{}}
	for n := 0; n < len(work); n++ {
		at := work[n].to
		if x.ends(at[0]) != y.ends(at[1]) {
			return letters(work, n), true
		}
		for _, w := range together(x, y, at) {
			// What sets kin apart sets an earlier meeting apart, too: a word ahead of this one.
			if meets(w.to) {
				work = append(work, meeting{w, n})
			}
		}
	}
	return nil, false
}

// letters is by which letters one comes to a meeting.
func letters(work []meeting, n int) []int {
	var l []int
	for ; n > 0; n = work[n].earlier {
		l = append(l, work[n].letter)
	}
	slices.Reverse(l)
	return l
}

// kin are numbers in groups: each number points at another one of its group, or at itself, which stands for the group then.
type kin []int

// newKin has each number in a group of its own.
func newKin(size int) kin {
	k := make(kin, size)
	for n := range k {
		k[n] = n
	}
	return k
}

// head is the number that stands for a number's group.
func (k kin) head(n int) int {
	for k[n] != n {
		// Each look halves the way of the next one.
		k[n] = k[k[n]]
		n = k[n]
	}
	return n
}

// join makes the groups of two numbers one; false: they were.
func (k kin) join(n, m int) bool {
	n, m = k.head(n), k.head(m)
	k[n] = m
	return n != m
}
