package word

import (
	"slices"
	"unicode/utf8"

	"cognate/api"
	"cognate/runes"
)

// mostBytes is what a word's letters and the first one too many have at most: what is wrong with a word shows within.
const mostBytes = (api.MaxWord + 1) * utf8.UTFMax

// read is a word's letters, each of which must stand in the row.
func read(row []rune, w string) ([]rune, api.Errno) {
	return putRead(nil, row, w)
}

// readAll is the letters of all words of a list, one behind the other, and where each word ends among them.
func readAll(row []rune, l []string) (all []rune, ends []int, e api.Errno) {
	if len(l) > api.MaxEntries {
		return nil, nil, api.ErrMany
	}
	for _, w := range l {
		all, e = putRead(all, row, w)
		if e != api.OK {
			return nil, nil, e
		}
		ends = append(ends, len(all))
	}
	return all, ends, api.OK
}

// putRead puts a word's letters behind out.
func putRead(out, row []rune, w string) ([]rune, api.Errno) {
	pieces, e := runes.Pieces(w[:min(len(w), mostBytes)])
	if e != api.OK {
		return nil, e
	}
	for number, p := range pieces {
		switch {
		case p.Broken:
			return nil, api.ErrWord
		case !slices.Contains(row, p.Rune):
			return nil, api.ErrLetter
		case number == api.MaxWord:
			return nil, api.ErrMany
		}
		out = append(out, p.Rune)
	}
	return out, api.OK
}

// part is the letters from one place up to another one, with no room to grow into those behind it.
func part(l []rune, from, to int) []rune { return l[from:to:to] }
