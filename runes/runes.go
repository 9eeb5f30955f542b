// Package runes is layer 1: see shared/doc/01-runes.md.
package runes

import (
	"strings"
	"unicode/utf8"

	"cognate/api"
)

// Pieces is a text's runes, each byte that is no part of one as one broken rune.
func Pieces(s string) ([]api.Piece, api.Errno) {
	if len(s) > api.MaxText {
		return nil, api.ErrText
	}
	l := make([]api.Piece, 0, utf8.RuneCountInString(s))
	walk(s, func(p api.Piece) { l = append(l, p) })
	return l, api.OK
}

// Text is runes as bytes; what is no rune as Broken.
func Text(l []rune) string { return string(l) }

// Len is how many pieces a text has.
func Len(s string) (int, api.Errno) {
	if len(s) > api.MaxText {
		return 0, api.ErrText
	}
	return utf8.RuneCountInString(s), api.OK
}

// Broken is where a text's first broken byte is; -1: it has none.
func Broken(s string) (int, api.Errno) {
	if len(s) > api.MaxText {
		return 0, api.ErrText
	}
	first := -1
	walk(s, func(p api.Piece) {
		if p.Broken && first < 0 {
			first = p.At
		}
	})
	return first, api.OK
}

// Part is the pieces from the number from to the one ahead of to, as bytes.
func Part(s string, from, to int) (string, api.Errno) {
	if len(s) > api.MaxText {
		return "", api.ErrText
	}
	if from < 0 || from > to || to > utf8.RuneCountInString(s) {
		return "", api.ErrPlace
	}
	// A slice of s would share its bytes.
	return strings.Clone(s[placeOf(s, from):placeOf(s, to)]), api.OK
}

// Back is the text with its broken bytes mended by Broken.
func Back(s string) (string, api.Errno) {
	if len(s) > api.MaxText {
		return "", api.ErrText
	}
	return Text([]rune(s)), api.OK
}

// Less puts texts in a row, by runes, broken bytes behind all.
func Less(a, b string) bool {
	for at := range a {
		// All that is ahead was alike, so a piece begins at this place of b, too, if b has one left.
		if at == len(b) {
			return false
		}
		x, y := rank(a[at:]), rank(b[at:])
		if x != y {
			return x < y
		}
	}
	return len(a) < len(b)
}

// walk hands the pieces of s to see, from the left on.
func walk(s string, see func(api.Piece)) {
	for at, r := range s {
		// The rune alone does not tell: a text may have U+FFFD itself, in three bytes.
		_, n := utf8.DecodeRuneInString(s[at:])
		see(api.Piece{Rune: r, At: at, Len: n, Broken: r == api.Broken && n == 1})
	}
}

// placeOf is where the piece with that number begins; the end of s, if there is none.
func placeOf(s string, number int) int {
	for at := range s {
		if number == 0 {
			return at
		}
		number--
	}
	return len(s)
}

// rank is the place in the row of the first piece of s, which is not empty.
func rank(s string) rune {
	r, n := utf8.DecodeRuneInString(s)
	if r == api.Broken && n == 1 {
		return utf8.MaxRune + 1 + rune(s[0])
	}
	return r
}
