package match_test

import (
	"math"
	"strings"
	"testing"

	"cognate/api"
	"cognate/match"
	"cognate/pattern"
)

// wrongAlphabets are some that may not be.
func wrongAlphabets() []api.Alphabet {
	twice, both, beyond, named := sample(), sample(), sample(), sample()
	twice.Letters[1].Rune = 'a'
	both.Letters[0].Minus = 1
	beyond.Letters[1].Plus = 2
	named.Features[0] = "Vowel"
	return []api.Alphabet{{}, twice, both, beyond, named}
}

// wrongPatterns are some that may not be in the sample.
func wrongPatterns() []api.Pattern {
	many := api.Pattern{Nodes: []api.Node{{Kind: api.PatSeq}}}
	for k := range api.MaxNodes {
		many.Nodes[0].Kids = append(many.Nodes[0].Kids, k+1)
		many.Nodes = append(many.Nodes, api.Node{Kind: api.PatEmpty})
	}
	l := []api.Pattern{many, {}, pattern.Rune('x'), pattern.Rune(0), pattern.Class(2, 0), pattern.Class(1, 1)}
	for _, n := range []api.Node{{}, {Kind: 10}, {Kind: api.PatStar}, {Kind: api.PatOpt}, {Kind: api.PatSeq, Kids: []int{0}}, {Kind: api.PatSeq, Kids: []int{1}}, {Kind: api.PatOr, Kids: []int{-1}}, {Kind: api.PatStar, Kids: []int{0}}, {Kind: api.PatAny, Rune: 'a'}, {Kind: api.PatEdge, Plus: 1}} {
		l = append(l, api.Pattern{Nodes: []api.Node{n}})
	}
	return append(l, api.Pattern{Nodes: []api.Node{{Kind: api.PatSeq, Kids: []int{1, 1}}, {Kind: api.PatAny}}})
}

// wrongWords are words that may not be in the sample, with their errors.
func wrongWords() map[string]api.Errno {
	long := strings.Repeat("a", api.MaxWord)
	return map[string]api.Errno{
		"x": api.ErrLetter, "\xff": api.ErrWord, "ax\xff": api.ErrLetter, "a\xffx": api.ErrWord, "a\ufffd": api.ErrLetter, "A": api.ErrLetter, "\xc3": api.ErrWord,
		long + "a": api.ErrMany, long + "x": api.ErrLetter, long + "\xff": api.ErrWord, long + "a\xff": api.ErrMany, strings.Repeat("a", api.MaxText+1): api.ErrMany,
	}
}

// refuses asks of all calls that they answer that error, and nothing else.
func refuses(t *testing.T, a api.Alphabet, p api.Pattern, w string, at int, want api.Errno) {
	t.Helper()
	told := func(call string, zero bool, e api.Errno) {
		t.Helper()
		if !zero || e != want {
			t.Errorf("%s: %v, %.20q, %d: %d, want %d; zero: %t", call, p, w, at, e, want, zero)
		}
	}
	is, e := match.Whole(a, p, w)
	told("Whole", !is, e)
	s, is, e := match.First(a, p, w)
	told("First", s == api.Span{} && !is, e)
	l, e := match.All(a, p, w)
	told("All", len(l) == 0, e)
	atPlaces(a, p, w, at, told)
}

// atPlaces hands on what the calls tell that are handed a place.
func atPlaces(a api.Alphabet, p api.Pattern, w string, at int, told func(call string, zero bool, e api.Errno)) {
	l, e := match.Ends(a, p, w, at)
	told("Ends", len(l) == 0, e)
	l, e = match.Begins(a, p, w, at)
	told("Begins", len(l) == 0, e)
	is, e := match.Between(a, p, p, w, at, 0)
	told("Between", !is, e)
	is, e = match.Between(a, p, p, w, 0, at)
	told("Between", !is, e)
}

// TestP51ErrorsInOrder and what stands behind it hand in other faults, too, further to the right.
func TestP51ErrorsInOrder(t *testing.T) {
	for _, a := range wrongAlphabets() {
		for _, p := range append(wrongPatterns(), pattern.Empty()) {
			for _, w := range []string{"", "a", "x", "\xff"} {
				refuses(t, a, p, w, 0, api.ErrAlphabet)
				refuses(t, a, p, w, -1, api.ErrAlphabet)
			}
		}
	}
	for _, p := range wrongPatterns() {
		for w := range wrongWords() {
			refuses(t, sample(), p, w, 0, api.ErrPattern)
			refuses(t, sample(), p, w, 99, api.ErrPattern)
		}
		refuses(t, sample(), p, "ap", 1, api.ErrPattern)
		refuses(t, sample(), p, "", -1, api.ErrPattern)
	}
	for w, e := range wrongWords() {
		for _, s := range []string{"~", "{}", ".*", "[+vowel]", "#"} {
			refuses(t, sample(), parsed(t, sample(), s), w, 0, e)
			refuses(t, sample(), parsed(t, sample(), s), w, -1, e)
			refuses(t, sample(), parsed(t, sample(), s), w, 1<<20, e)
		}
	}
}

// TestP51PlacesAreLast asks of numbers that are no places, everything else being well.
func TestP51PlacesAreLast(t *testing.T) {
	for _, at := range []int{-1, 3, 64, 65, 128, -64, -128, math.MinInt, math.MaxInt} {
		for _, s := range []string{"~", "{}", ".*"} {
			atPlaces(sample(), parsed(t, sample(), s), "ap", at, func(call string, zero bool, e api.Errno) {
				if !zero || e != api.ErrArg {
					t.Error(s, at, call, zero, e)
				}
			})
		}
	}
}

// TestP53ErrorsFromTheLeft: left's, then right's, then the word's, then that of a place.
func TestP53ErrorsFromTheLeft(t *testing.T) {
	well, wrong := pattern.Empty(), pattern.Rune('x')
	for i, c := range []struct {
		a           api.Alphabet
		left, right api.Pattern
		w           string
		from, to    int
		e           api.Errno
	}{
		{api.Alphabet{}, wrong, wrong, "x", -1, -1, api.ErrAlphabet}, {api.Alphabet{}, well, well, "", 0, 0, api.ErrAlphabet},
		{sample(), wrong, well, "x", -1, 0, api.ErrPattern}, {sample(), well, wrong, "x", -1, 0, api.ErrPattern}, {sample(), well, wrong, "\xff", 0, 0, api.ErrPattern}, {sample(), wrong, wrong, "a", 0, 9, api.ErrPattern}, {sample(), well, wrong, "a", 0, 0, api.ErrPattern}, {sample(), wrong, well, "a", 0, 0, api.ErrPattern},
		{sample(), well, well, "x", -1, -1, api.ErrLetter}, {sample(), well, well, "\xff", 9, 0, api.ErrWord}, {sample(), well, well, strings.Repeat("p", 65), 65, 66, api.ErrMany},
		{sample(), well, well, "a", 2, 0, api.ErrArg}, {sample(), well, well, "a", 0, 2, api.ErrArg}, {sample(), well, well, "a", 1, 0, api.OK},
	} {
		if is, e := match.Between(c.a, c.left, c.right, c.w, c.from, c.to); is != (c.e == api.OK) || e != c.e {
			t.Error(i, is, e)
		}
	}
}
