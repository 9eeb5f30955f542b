package auto_test

import (
	"math"
	"slices"
	"strings"
	"testing"

	"cognate/api"
	"cognate/auto"
	"cognate/pattern"
)

// wrongAlphabets are some that may not be.
func wrongAlphabets() []api.Alphabet {
	twice, both, beyond, named := mixed(), mixed(), mixed(), mixed()
	twice.Letters[1].Rune = 'Z'
	both.Letters[0].Minus = 1
	beyond.Letters[1].Plus = 4
	named.Features[0] = "V"
	return []api.Alphabet{{}, twice, both, beyond, named, wide(129)}
}

// wrongAutos are some that may not be in the sample.
func wrongAutos() []api.Auto {
	l := []api.Auto{
		{}, {States: -1}, {States: 4097}, {States: math.MaxInt}, {States: math.MinInt},
		{States: 1, Ends: []int{1}}, {States: 1, Ends: []int{-1}}, {States: 2, Ends: []int{1, 0}}, {States: 2, Ends: []int{0, 0}}, {States: 3, Ends: []int{0, 2, 2}}, {States: 3, Ends: []int{0, 1, 3}}, {States: 1, Ends: []int{math.MinInt}}, {States: 1, Ends: []int{math.MaxInt}}, {States: 3, Ends: []int{0, 2, 1}},
		{States: 1, Moves: make([]api.Move, 16385)}, {Ends: []int{0}, Moves: moves("0a0")}, {States: 4096, Ends: make([]int, 4097)},
	}
	for _, m := range [][]string{{"0c0"}, {"0A0"}, {"0a2"}, {"2a0"}, {"-1a0"}, {"0a-1"}, {"0a0", "0a0"}, {"0a1", "0b1", "1a0", "0a1"}, {"0a1", "1b1", "1c1"}} {
		l = append(l, automaton(2, []int{0}, m...))
	}
	for _, r := range []rune{0, -1, api.Broken, math.MaxInt32, 'b' + 256} {
		l = append(l, api.Auto{States: 1, Moves: []api.Move{{Rune: r}}})
	}
	return append(l, api.Auto{States: 1, Moves: []api.Move{{From: math.MaxInt, Rune: 'a'}}}, api.Auto{States: 1, Moves: []api.Move{{To: math.MinInt, Rune: 'a'}}})
}

// refuses asks of all calls that are handed an automaton that they answer that error, and nothing else.
func refuses(t *testing.T, a api.Alphabet, x, y api.Auto, w string, number int, want api.Errno) {
	t.Helper()
	told := func(call string, zero bool, e api.Errno) {
		t.Helper()
		if !zero || e != want {
			t.Errorf("%s: %.99v, %.99v, %.20q, %d: %d, want %d; zero: %t", call, x, y, w, number, e, want, zero)
		}
	}
	is, e := auto.Takes(a, x, w)
	told("Takes", !is, e)
	l, e := auto.Words(a, x, number)
	told("Words", len(l) == 0, e)
	n, e := auto.Count(a, x, number)
	told("Count", n == 0, e)
	if number == 0 && w == "" {
		z, e := auto.Least(a, x)
		told("Least", same(z, api.Auto{}), e)
		z, e = auto.Not(a, x)
		told("Not", same(z, api.Auto{}), e)
		told("Check", true, auto.Check(a, x))
	}
	z, e := auto.Both(a, x, y)
	told("Both", same(z, api.Auto{}), e)
	z, e = auto.Either(a, x, y)
	told("Either", same(z, api.Auto{}), e)
	is, s, e := auto.Same(a, x, y)
	told("Same", !is && s == "", e)
}

func TestP61Check(t *testing.T) {
	full := api.Auto{States: 4096}
	for n := range full.States {
		full.Ends = append(full.Ends, n)
		for k := range 2 {
			full.Moves = append(full.Moves, api.Move{From: n, To: (n * 7) % 4096, Rune: rune('a' + k)}, api.Move{From: n, To: (n*7 + 1) % 4096, Rune: rune('a' + k)})
		}
	}
	if len(full.Moves) != api.MaxArcs {
		t.Fatal(len(full.Moves))
	}
	for i, x := range []api.Auto{full, {States: 1}, {States: 4096}, {States: 1, Ends: []int{0}}, {States: 3, Ends: []int{0, 2}}, automaton(2, []int{1}, "0a1", "0b1", "0a0", "1a0", "1a1", "1b0")} {
		if e := auto.Check(sample(), x); e != api.OK {
			t.Error(i, e)
		}
	}
	more := full
	more.Moves = append(slices.Clone(full.Moves), api.Move{From: 0, To: 4095, Rune: 'a'})
	twice := full
	twice.Moves = slices.Clone(full.Moves)
	twice.Moves[api.MaxArcs-1] = twice.Moves[0]
	for i, x := range append(wrongAutos(), more, twice) {
		if e := auto.Check(sample(), x); e != api.ErrAuto {
			t.Error(i, e)
		}
	}
	for i, x := range []api.Auto{automaton(1, nil, "0Z0"), automaton(1, nil, "0一0", "0z0"), automaton(2, []int{0, 1}, "0𐌰1")} {
		if e := auto.Check(mixed(), x); e != api.OK {
			t.Error(i, e)
		}
		if e := auto.Check(sample(), x); e != api.ErrAuto {
			t.Error(i, e)
		}
	}
}

// TestP61FromTheLeft hands in other faults, too, further to the right.
func TestP61FromTheLeft(t *testing.T) {
	well := automaton(2, []int{1}, "0a1")
	for _, a := range wrongAlphabets() {
		for _, x := range append(wrongAutos(), well) {
			for _, w := range []string{"", "x", "\xff"} {
				refuses(t, a, x, api.Auto{}, w, 0, api.ErrAlphabet)
				refuses(t, a, x, well, w, -1, api.ErrAlphabet)
			}
		}
		if _, e := auto.Of(a, api.Pattern{}); e != api.ErrAlphabet {
			t.Error(e)
		}
		for _, l := range [][]string{nil, {"x"}, {"\xff"}, make([]string, api.MaxEntries+1)} {
			if x, e := auto.List(a, l); !same(x, api.Auto{}) || e != api.ErrAlphabet {
				t.Error(x, e)
			}
		}
	}
	for _, x := range wrongAutos() {
		for _, w := range []string{"", "x", "\xff", strings.Repeat("a", 65)} {
			for _, n := range []int{0, 1, -1, 1025} {
				refuses(t, sample(), x, well, w, n, api.ErrAuto)
				refuses(t, sample(), x, x, w, n, api.ErrAuto)
			}
		}
	}
}

// TestP61SecondIsLookedAt hands in a second automaton that may not be, the first one being well or too large.
func TestP61SecondIsLookedAt(t *testing.T) {
	for _, x := range []api.Auto{automaton(2, []int{1}, "0a1"), fromLast(13)} {
		for _, y := range wrongAutos() {
			z, e := auto.Both(sample(), x, y)
			if !same(z, api.Auto{}) || e != api.ErrAuto {
				t.Error("Both", z, e)
			}
			z, e = auto.Either(sample(), x, y)
			if !same(z, api.Auto{}) || e != api.ErrAuto {
				t.Error("Either", z, e)
			}
			is, w, e := auto.Same(sample(), x, y)
			if is || w != "" || e != api.ErrAuto {
				t.Error("Same", is, w, e)
			}
		}
	}
}

func TestP61Takes(t *testing.T) {
	several := automaton(3, []int{1, 2}, "0a1", "0a2", "1b1", "2b2", "2a0")
	for _, c := range []struct {
		x    api.Auto
		w    string
		want bool
	}{
		{several, "", false}, {several, "a", true}, {several, "abb", true}, {several, "aba", false}, {several, "abaab", true}, {several, "b", false}, {several, "aaabb", true},
		{api.Auto{States: 1}, "", false}, {automaton(1, []int{0}), "", true}, {automaton(1, []int{0}), "a", false}, {automaton(1, []int{0}, "0a0"), strings.Repeat("a", 64), true}, {automaton(1, []int{0}, "0a0"), strings.Repeat("a", 63) + "b", false}, {automaton(2, []int{1}, "0a0", "0b0", "0a1"), strings.Repeat("b", 63) + "a", true}, {automaton(2, []int{1}, "0a0", "0b0", "0a1"), strings.Repeat("a", 63) + "b", false},
	} {
		if is, e := auto.Takes(sample(), c.x, c.w); is != c.want || e != api.OK {
			t.Errorf("%v, %q: %t, %d", c.x, c.w, is, e)
		}
	}
	drawn(200, func(a api.Alphabet, x, y api.Auto) {
		for _, w := range words(a, 4) {
			if is, e := auto.Takes(a, x, w); is != takes(x, w) || e != api.OK {
				t.Fatalf("%v, %q: %t, %d", x, w, is, e)
			}
		}
	})
}

func TestP61TakesErrors(t *testing.T) {
	long := strings.Repeat("a", api.MaxWord)
	x := automaton(1, []int{0}, "0a0", "0b0")
	for w, want := range map[string]api.Errno{"c": api.ErrLetter, "\xff": api.ErrWord, "ac\xff": api.ErrLetter, "a\xffc": api.ErrWord, "a\ufffd": api.ErrLetter, long + "a": api.ErrMany, long + "c": api.ErrLetter, long + "\xff": api.ErrWord} {
		if is, e := auto.Takes(sample(), x, w); is || e != want {
			t.Errorf("%q: %t, %d", w, is, e)
		}
	}
}

// TestP61TakesByHighStates goes by states up to the last one that may be.
func TestP61TakesByHighStates(t *testing.T) {
	high := api.Auto{States: 4096, Ends: []int{4095}}
	for n := 0; n < 4095; n += 65 {
		high.Moves = append(high.Moves, api.Move{From: n, To: n + 65, Rune: 'b'})
	}
	for n := range 66 {
		if is, e := auto.Takes(sample(), high, strings.Repeat("b", min(n, 64))); is != (n == 63) || e != api.OK {
			t.Error(n, is, e)
		}
	}
}

// TestP61WhateverIsHandedIn asks that Check tells of drawn fields what the chapter says.
func TestP61WhateverIsHandedIn(t *testing.T) {
	d := dice(5)
	number := func(most int) int {
		return []int{d.roll(most), d.roll(most), d.roll(most), -1, most, most + 1}[d.roll(6)]
	}
	for range 20000 {
		x := api.Auto{States: d.roll(4)}
		for range d.roll(3) {
			x.Ends = append(x.Ends, number(max(x.States, 1)))
		}
		for range d.roll(3) {
			x.Moves = append(x.Moves, api.Move{From: number(max(x.States, 1)), To: number(max(x.States, 1)), Rune: rune('a' + d.roll(3)*d.roll(2))})
		}
		is := x.States >= 1
		for i, n := range x.Ends {
			is = is && n >= 0 && n < x.States && (i == 0 || x.Ends[i-1] < n)
		}
		for i, m := range x.Moves {
			is = is && m.From >= 0 && m.From < x.States && m.To >= 0 && m.To < x.States && m.Rune <= 'b' && !slices.Contains(x.Moves[:i], m)
		}
		if e := auto.Check(sample(), x); (e == api.OK) != is || !is && e != api.ErrAuto {
			t.Fatal(x, is, e)
		}
	}
}

func TestP62PatternErrors(t *testing.T) {
	for _, p := range []api.Pattern{{}, pattern.Rune('c'), pattern.Rune(0), pattern.Class(1, 0), {Nodes: make([]api.Node, 257)}, {Nodes: []api.Node{{Kind: api.PatStar}}}, {Nodes: []api.Node{{Kind: api.PatSeq, Kids: []int{0}}}}, {Nodes: []api.Node{{Kind: api.PatAny, Rune: 'a'}}}, {Nodes: []api.Node{{Kind: 10}}}} {
		if x, e := auto.Of(sample(), p); !same(x, api.Auto{}) || e != api.ErrPattern {
			t.Error(p, x, e)
		}
	}
}
