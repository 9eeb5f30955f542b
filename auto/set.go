package auto

import "math/bits"

// wordBits is how many numbers one word of a set keeps: sets are arrays of words, so that they can be keys.
const wordBits = 64

// put puts a number into a set.
func put(set []uint64, n int) { set[n/wordBits] |= 1 << (n % wordBits) }

// has tells whether a set has a number.
func has(set []uint64, n int) bool { return set[n/wordBits]>>(n%wordBits)&1 == 1 }

// join puts all numbers of another set into one.
func join(set, other []uint64) {
	for i, word := range other {
		set[i] |= word
	}
}

// meet takes all numbers out of a set that another one has not.
func meet(set, other []uint64) {
	for i, word := range other {
		set[i] &= word
	}
}

// list is a set's numbers, rising.
func list(set []uint64) []int {
	var l []int
	for i, word := range set {
		for ; word != 0; word &= word - 1 {
			l = append(l, i*wordBits+bits.TrailingZeros64(word))
		}
	}
	return l
}
