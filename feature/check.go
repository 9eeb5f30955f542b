package feature

import (
	"slices"
	"unicode/utf8"

	"cognate/api"
)

// firstBeyond is the least rune beyond those of one byte that may be a letter.
const firstBeyond = 0xa1

// areFeatures tells whether names may be those of an alphabet's features.
func areFeatures(names []string) bool {
	if len(names) > api.MaxFeatures {
		return false
	}
	for i, name := range names {
		if !isName(name) || slices.Contains(names[:i], name) {
			return false
		}
	}
	return true
}

// areLetters tells whether an alphabet's letters may be, if its features may.
func areLetters(a api.Alphabet) bool {
	if len(a.Letters) < 1 || len(a.Letters) > api.MaxLetters {
		return false
	}
	row := make([]rune, 0, api.MaxLetters)
	for _, x := range a.Letters {
		if !isRune(x.Rune) || !isClass(a, x.Plus, x.Minus) {
			return false
		}
		row = append(row, x.Rune)
	}
	// Every call of this layer asks for the alphabet first: sorted, twins are found sooner than one against all others.
	slices.Sort(row)
	return len(slices.Compact(row)) == len(a.Letters)
}

// isName tells whether a text may be a feature's name.
func isName(s string) bool {
	return len(s) >= 1 && len(s) <= api.MaxName && nameEnd(s, 0) == len(s)
}

// nameEnd is where the longest run of a to z ends that begins at a place of s.
func nameEnd(s string, from int) int {
	for from < len(s) && s[from] >= 'a' && s[from] <= 'z' {
		from++
	}
	return from
}

// isRune tells whether a rune may be a letter's.
func isRune(r rune) bool {
	if r >= 'a' && r <= 'z' || r >= 'A' && r <= 'Z' {
		return true
	}
	return r >= firstBeyond && r != api.Broken && utf8.ValidRune(r)
}

// isClass tells whether a class may be in an alphabet whose features may be.
func isClass(a api.Alphabet, plus, minus uint32) bool {
	return (plus|minus)&^featuresOf(a) == 0 && plus&minus == 0
}

// featuresOf is the bits of all features of an alphabet.
func featuresOf(a api.Alphabet) uint32 { return 1<<len(a.Features) - 1 }
