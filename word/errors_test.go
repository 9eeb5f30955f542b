package word_test

import (
	"testing"

	"cognate/api"
	"cognate/word"
)

// answer is what a call answered: whether all beside the error is zero, and the error.
type answer struct {
	zero bool
	e    api.Errno
}

// refuses asks that each of these answers is that error, and nothing else.
func refuses(t *testing.T, what string, answers map[string]answer, e api.Errno) {
	t.Helper()
	for call, x := range answers {
		if x.e != e || !x.zero {
			t.Errorf("%.20q: %s: %d, want %d; zero: %t", what, call, x.e, e, x.zero)
		}
	}
}

// ofOne is the answers of all calls of one word, the other arguments being wrong, too.
func ofOne(a api.Alphabet, w string) map[string]answer {
	l, letters := word.Letters(a, w)
	p, part := word.Part(a, w, 1, 0)
	u, turned := word.Turned(a, w)
	k, peaks := word.Peaks(a, w, 1, 1)
	s, syllables := word.Syllables(a, w, 1<<31, 0)
	return map[string]answer{
		"Check": {true, word.Check(a, w)}, "Letters": {len(l) == 0, letters}, "Part": {p == "", part}, "Turned": {u == "", turned}, "Peaks": {len(k) == 0, peaks}, "Syllables": {len(s) == 0, syllables},
	}
}

// ofTwo is the answers of all calls of two words.
func ofTwo(a api.Alphabet, x, y string) map[string]answer {
	c, compared := word.Cmp(a, x, y)
	n, common := word.Common(a, x, y)
	l, sorted := word.Sort(a, []string{x, y})
	j, joined := word.Join(a, []string{x, y})
	return map[string]answer{"Cmp": {c == 0, compared}, "Common": {n == 0, common}, "Sort": {len(l) == 0, sorted}, "Join": {j == "", joined}}
}

func TestP31WrongWords(t *testing.T) {
	a := sample()
	for w, e := range wrongWords() {
		refuses(t, w, ofOne(a, w), e)
		refuses(t, w, ofTwo(a, w, ""), e)
		refuses(t, w, ofTwo(a, "ab", w), e)
		for other := range wrongWords() {
			refuses(t, w, ofTwo(a, w, other), e)
		}
	}
}

func TestP31AlphabetFirst(t *testing.T) {
	for _, a := range wrongAlphabets() {
		for _, w := range []string{"", "ab", "d", "\xff"} {
			refuses(t, w, ofOne(a, w), api.ErrAlphabet)
			refuses(t, w, ofTwo(a, w, w), api.ErrAlphabet)
		}
		for _, l := range [][]rune{nil, {'a'}, {-1}, make([]rune, api.MaxForm+1)} {
			if s, e := word.Text(a, l); s != "" || e != api.ErrAlphabet {
				t.Error(len(l), s, e)
			}
		}
		for _, l := range [][]string{nil, {"a"}, make([]string, api.MaxEntries+1)} {
			if s, e := word.Join(a, l); s != "" || e != api.ErrAlphabet {
				t.Error(len(l), s, e)
			}
			if s, e := word.Sort(a, l); len(s) > 0 || e != api.ErrAlphabet {
				t.Error(len(l), s, e)
			}
		}
		if p, e := word.Peaks(a, "a", 0, 0); len(p) > 0 || e != api.ErrAlphabet {
			t.Error(p, e)
		}
		if s, e := word.Part(a, "a", 0, 1); s != "" || e != api.ErrAlphabet {
			t.Error(s, e)
		}
	}
}

// TestP31ListsInOrder: a list's length first, then its words, the first wrong one.
func TestP31ListsInOrder(t *testing.T) {
	full := make([]string, api.MaxEntries)
	for i, c := range []struct {
		l []string
		e api.Errno
	}{
		{[]string{"a", "d", "\xff"}, api.ErrLetter}, {[]string{"a", "\xff", "d"}, api.ErrWord}, {[]string{"", "", "abc", "ab\xffd"}, api.ErrWord},
		{append(full[1:len(full):len(full)], "d"), api.ErrLetter}, {append(full[:len(full):len(full)], "d"), api.ErrMany}, {append([]string{"\xff"}, full...), api.ErrMany}, {make([]string, 3*api.MaxEntries), api.ErrMany},
	} {
		if s, e := word.Sort(sample(), c.l); len(s) > 0 || e != c.e {
			t.Error(i, "Sort:", s, e)
		}
		if s, e := word.Join(sample(), c.l); s != "" || e != c.e {
			t.Error(i, "Join:", s, e)
		}
	}
	if s, e := word.Join(sample(), full); s != "" || e != api.OK {
		t.Error(s, e)
	}
	if s, e := word.Sort(sample(), full); len(s) != 1 || s[0] != "" || e != api.OK {
		t.Error(s, e)
	}
}
