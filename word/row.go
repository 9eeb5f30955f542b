package word

import (
	"cmp"
	"slices"

	"cognate/api"
	"cognate/runes"
)

// Cmp compares by the alphabet's order, letter by letter.
func Cmp(a api.Alphabet, x, y string) (int, api.Errno) {
	row, l, m, e := readBoth(a, x, y)
	if e != api.OK {
		return 0, e
	}
	return compare(row, l, m), api.OK
}

// Common is how many letters two words begin with alike.
func Common(a api.Alphabet, x, y string) (int, api.Errno) {
	_, l, m, e := readBoth(a, x, y)
	if e != api.OK {
		return 0, e
	}
	return common(l, m), api.OK
}

// Sort puts words in their row, each once.
func Sort(a api.Alphabet, l []string) ([]string, api.Errno) {
	row, e := rowOf(a)
	if e != api.OK {
		return nil, e
	}
	all, ends, e := readAll(row, l)
	if e != api.OK {
		return nil, e
	}
	words := cut(all, ends)
	slices.SortFunc(words, func(x, y []rune) int { return compare(row, x, y) })
	words = slices.CompactFunc(words, slices.Equal)
	sorted := make([]string, len(words))
	for i, w := range words {
		sorted[i] = runes.Text(w)
	}
	return sorted, api.OK
}

// readBoth is the alphabet's row, and the letters of two words.
func readBoth(a api.Alphabet, x, y string) (row, l, m []rune, e api.Errno) {
	row, e = rowOf(a)
	if e != api.OK {
		return nil, nil, nil, e
	}
	l, e = read(row, x)
	if e != api.OK {
		return nil, nil, nil, e
	}
	m, e = read(row, y)
	if e != api.OK {
		return nil, nil, nil, e
	}
	return row, l, m, api.OK
}

// cut is the parts of some letters that end at these places, one behind the other.
func cut(all []rune, ends []int) [][]rune {
	parts := make([][]rune, 0, len(ends))
	from := 0
	for _, to := range ends {
		parts = append(parts, part(all, from, to))
		from = to
	}
	return parts
}

// compare is -1, 0 or 1, as x stands ahead of y, is y, or stands behind it.
func compare(row, x, y []rune) int {
	n := common(x, y)
	if n == len(x) || n == len(y) {
		return cmp.Compare(len(x), len(y))
	}
	// Only the first letters that are unlike are looked up: long lists are sorted by this.
	return cmp.Compare(slices.Index(row, x[n]), slices.Index(row, y[n]))
}

// common is how many letters both begin with alike.
func common(x, y []rune) int {
	n := 0
	for n < len(x) && n < len(y) && x[n] == y[n] {
		n++
	}
	return n
}
