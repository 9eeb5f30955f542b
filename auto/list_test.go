package auto_test

import (
	"slices"
	"strings"
	"testing"

	"cognate/api"
	"cognate/auto"
)

// trie is an automaton whose states are the beginnings of some words.
func trie(l []string) api.Auto {
	x := api.Auto{States: 1}
	numbers := map[string]int{"": 0}
	for _, w := range l {
		for i, r := range w {
			begin, next := w[:i], w[:i+len(string(r))]
			if _, ok := numbers[next]; !ok {
				numbers[next] = x.States
				x.Moves = append(x.Moves, api.Move{From: numbers[begin], To: x.States, Rune: r})
				x.States++
			}
		}
		x.Ends = append(x.Ends, numbers[w])
	}
	slices.Sort(x.Ends)
	x.Ends = slices.Compact(x.Ends)
	return x
}

func TestP62List(t *testing.T) {
	for i, c := range []struct {
		l    []string
		want api.Auto
	}{
		{[]string{"ab", "b"}, automaton(3, []int{2}, "0a1", "0b2", "1b2")}, {nil, api.Auto{States: 1}}, {[]string{}, api.Auto{States: 1}}, {[]string{""}, automaton(1, []int{0})}, {[]string{"", ""}, automaton(1, []int{0})}, {[]string{"a", "a"}, automaton(2, []int{1}, "0a1")}, {[]string{"b", "", "ab", "b"}, automaton(3, []int{0, 2}, "0a1", "0b2", "1b2")}, {[]string{"a", "aa", "aaa"}, automaton(4, []int{1, 2, 3}, "0a1", "1a2", "2a3")}, {[]string{"aaa", "a"}, automaton(4, []int{1, 3}, "0a1", "1a2", "2a3")}, {[]string{"bb", "ba", "ab", "aa"}, automaton(3, []int{2}, "0a1", "0b1", "1a2", "1b2")}, {[]string{"ba", "ab", "aa"}, automaton(4, []int{3}, "0a1", "0b2", "1a3", "1b3", "2a3")},
	} {
		if x, e := auto.List(sample(), c.l); !same(x, c.want) || e != api.OK {
			t.Error(i, x, e)
		}
	}
	want := automaton(4, []int{2, 3}, "0𐌰1", "0一2", "1z3", "1一2", "3Z2")
	if x, e := auto.List(mixed(), []string{"一", "𐌰zZ", "𐌰z", "𐌰一"}); !same(x, want) || e != api.OK {
		t.Error(x, e)
	}
}

func TestP62ListDrawn(t *testing.T) {
	d := dice(11)
	for i := range 600 {
		a := []api.Alphabet{sample(), mixed(), wide(3)}[i%3]
		var l []string
		for range d.roll(9) {
			l = append(l, d.word(a, d.roll(5)))
		}
		if x, e := auto.List(a, l); !same(x, least(a, trie(l))) || e != api.OK {
			t.Fatalf("%q: %v, %d", l, x, e)
		}
	}
}

func TestP62ListErrors(t *testing.T) {
	long := strings.Repeat("a", api.MaxWord)
	for i, c := range []struct {
		l []string
		e api.Errno
	}{
		{[]string{"c"}, api.ErrLetter}, {[]string{"a", "c", "\xff"}, api.ErrLetter}, {[]string{"a", "\xff", "c"}, api.ErrWord}, {[]string{long + "a", "\xff"}, api.ErrMany}, {[]string{long, long + "c"}, api.ErrLetter}, {[]string{"b", "a\xff"}, api.ErrWord}, {append(make([]string, api.MaxEntries), "\xff"), api.ErrMany}, {append(make([]string, api.MaxEntries-1), "\xff"), api.ErrWord}, {append([]string{"\xff"}, make([]string, api.MaxEntries)...), api.ErrMany}, {make([]string, api.MaxEntries), api.OK},
	} {
		if x, e := auto.List(sample(), c.l); e != c.e || e != api.OK && !same(x, api.Auto{}) {
			t.Error(i, x, e)
		}
	}
}

// longWords are words whose beginnings, with the empty one, are 4096: 63 times 64 that begin with a letter of their own, and those of one more.
func longWords(a api.Alphabet, last int) []string {
	var l []string
	for _, x := range a.Letters[:63] {
		l = append(l, strings.Repeat(string(x.Rune), api.MaxWord))
	}
	return append(l, strings.Repeat(string(a.Letters[63].Rune), last))
}

func TestP62MostBeginnings(t *testing.T) {
	a := wide(64)
	x, e := auto.List(a, longWords(a, 63))
	if x.States != 63*63+62+2 || len(x.Ends) != 1 || e != api.OK {
		t.Error(x.States, x.Ends, e)
	}
	l := longWords(a, 64)
	if x, e := auto.List(a, l); !same(x, api.Auto{}) || e != api.ErrCap {
		t.Error(x, e)
	}
	// Words that are there already, and beginnings of words, add none.
	more := append(longWords(a, 63), "", l[0], l[7], strings.Repeat(string(a.Letters[3].Rune), 9))
	if x, e := auto.List(a, more); len(x.Ends) != 3 || e != api.OK {
		t.Error(x.States, x.Ends, e)
	}
	for w, want := range map[string]api.Errno{"A": api.ErrLetter, "\xff": api.ErrWord, l[0] + l[0]: api.ErrMany} {
		if x, e := auto.List(a, append(slices.Clone(l), w)); !same(x, api.Auto{}) || e != want {
			t.Error(x, e)
		}
	}
	all := words(sample(), 12)
	// All words of at most 11 letters are 4095, and as many beginnings.
	if x, e := auto.List(sample(), all[:4095]); x.States != 12 || len(x.Ends) != 12 || e != api.OK {
		t.Error(x, e)
	}
	if x, e := auto.List(sample(), all[:4096]); x.States != 23 || e != api.OK {
		t.Error(x, e)
	}
	if x, e := auto.List(sample(), append(slices.Clone(all[:4095]), strings.Repeat("a", 13))); x.States != 0 || e != api.ErrCap {
		t.Error(x, e)
	}
}
