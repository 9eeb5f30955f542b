package auto_test

import (
	"slices"
	"testing"

	"cognate/api"
	"cognate/auto"
)

func TestP63Least(t *testing.T) {
	for i, c := range []struct{ x, want api.Auto }{
		{automaton(3, []int{1, 2}, "0a1", "0a2", "1b1", "2b2"), automaton(2, []int{1}, "0a1", "1b1")},
		{api.Auto{States: 1}, api.Auto{States: 1}}, {api.Auto{States: 9}, api.Auto{States: 1}}, {automaton(1, []int{0}), automaton(1, []int{0})}, {automaton(3, []int{0, 1, 2}), automaton(1, []int{0})}, {automaton(3, []int{1, 2}), api.Auto{States: 1}},
		{automaton(2, nil, "0a1", "1a0", "1b1"), api.Auto{States: 1}}, {automaton(2, []int{0}, "0a1", "1a1"), automaton(1, []int{0})}, {automaton(3, []int{2}, "0a0", "0b1", "1a1"), api.Auto{States: 1}}, {automaton(4, []int{3}, "0b3", "0a1", "1a2", "2a1"), automaton(2, []int{1}, "0b1")},
		{automaton(3, []int{2}, "0b1", "0a2", "1a2"), automaton(3, []int{1}, "0a1", "0b2", "2a1")}, {automaton(3, []int{1}, "0a2", "0b1", "2a1"), automaton(3, []int{2}, "0a1", "0b2", "1a2")}, {automaton(3, []int{0, 1, 2}, "0a1", "1a2", "2a0"), automaton(1, []int{0}, "0a0")}, {automaton(4, []int{0, 2}, "0a1", "1a2", "2a3", "3a0"), automaton(2, []int{0}, "0a1", "1a0")}, {automaton(4, []int{0, 1}, "0a1", "1a2", "2a3", "3a0"), automaton(4, []int{0, 1}, "0a1", "1a2", "2a3", "3a0")},
		{automaton(2, []int{0}, "0b1", "1a0", "0b0"), automaton(2, []int{0, 1}, "0b1", "1a0", "1b1")}, {fromLast(1), automaton(2, []int{1}, "0a1", "0b0", "1a1", "1b0")}, {fromLast(2), automaton(4, []int{2, 3}, "0a1", "0b0", "1a2", "1b3", "2a2", "2b3", "3a1", "3b0")},
	} {
		if x, e := auto.Least(sample(), c.x); !same(x, c.want) || e != api.OK {
			t.Error(i, x, e)
		}
	}
}

func TestP63Drawn(t *testing.T) {
	drawn(3000, func(a api.Alphabet, x, y api.Auto) {
		want := least(a, x)
		if got, e := auto.Least(a, x); !same(got, want) || e != api.OK {
			t.Fatalf("%v: %v, %d, want %v", x, got, e, want)
		}
	})
}

// TestP63AllSmall asks of all automata of two states by one letter, and of three by one, for the form of their words.
func TestP63AllSmall(t *testing.T) {
	a := wide(1)
	for states := 1; states <= 3; states++ {
		for bits := range 1 << (states*states + states) {
			x := api.Auto{States: states}
			for n := range states {
				if bits>>n&1 == 1 {
					x.Ends = append(x.Ends, n)
				}
			}
			for k := range states * states {
				if bits>>(states+k)&1 == 1 {
					x.Moves = append(x.Moves, api.Move{From: k / states, To: k % states, Rune: a.Letters[0].Rune})
				}
			}
			// Of three states there are 8 sets: what is unlike shows within 8 letters.
			want := formOf(a, 8, func(w string) bool { return takes(x, w) })
			if states == 3 && bits%7 > 0 {
				want = least(a, x)
			}
			if got, e := auto.Least(a, x); !same(got, want) || e != api.OK {
				t.Fatalf("%v: %v, %d, want %v", x, got, e, want)
			}
		}
	}
}

// cycle is an automaton of a ring of states, each by all letters to the next one.
func cycle(a api.Alphabet, states int, ends ...int) api.Auto {
	x := api.Auto{States: states, Ends: ends}
	for n := range states {
		for _, y := range a.Letters {
			x.Moves = append(x.Moves, api.Move{From: n, To: (n + 1) % states, Rune: y.Rune})
		}
	}
	return x
}

// row is an automaton of that many letters in a row, by one letter.
func row(r rune, letters int, ends ...int) api.Auto {
	x := api.Auto{States: letters + 1, Ends: ends}
	for n := range letters {
		x.Moves = append(x.Moves, api.Move{From: n, To: n + 1, Rune: r})
	}
	return x
}

// turnedRow is a row whose states have the numbers from the other end on, but for 0.
func turnedRow(r rune, letters int) api.Auto {
	x := row(r, letters, 1)
	number := func(n int) int {
		if n == 0 {
			return 0
		}
		return letters + 1 - n
	}
	for i, m := range x.Moves {
		x.Moves[i].From, x.Moves[i].To = number(m.From), number(m.To)
	}
	slices.Reverse(x.Moves)
	return x
}

// TestP63Large hands in automata of as many states as may be, whose forms are known.
func TestP63Large(t *testing.T) {
	every := func(step, most int) []int {
		var l []int
		for n := 0; n < most; n += step {
			l = append(l, n)
		}
		return l
	}
	one := wide(1)
	r := one.Letters[0].Rune
	four := wide(4)
	for i, c := range []struct {
		a       api.Alphabet
		x, want api.Auto
	}{
		{one, row(r, 4095, 4095), row(r, 4095, 4095)}, {one, row(r, 4095, 77), row(r, 77, 77)}, {one, row(r, 4095), api.Auto{States: 1}}, {one, turnedRow(r, 4095), row(r, 4095, 4095)}, {one, row(r, 4095, every(1, 4096)...), row(r, 4095, every(1, 4096)...)},
		{one, cycle(one, 4096, 4095), cycle(one, 4096, 4095)}, {one, cycle(one, 4096, every(64, 4096)...), cycle(one, 64, 0)}, {one, cycle(one, 4096, every(1, 4096)...), cycle(one, 1, 0)}, {one, cycle(one, 4095, every(63, 4095)...), cycle(one, 63, 0)}, {four, cycle(four, 4096, 1), cycle(four, 4096, 1)}, {four, cycle(four, 4096, every(4, 4096)...), cycle(four, 4, 0)}, {four, cycle(four, 4096, every(2048, 4096)...), cycle(four, 2048, 0)},
	} {
		if x, e := auto.Least(c.a, c.x); !same(x, c.want) || e != api.OK {
			t.Error(i, x.States, x.Ends, len(x.Moves), e)
		}
	}
}

// and is an automaton with more states, ends and moves.
func and(x api.Auto, states int, ends []int, more ...string) api.Auto {
	return api.Auto{States: x.States + states, Ends: append(slices.Clone(x.Ends), ends...), Moves: append(slices.Clone(x.Moves), moves(more...)...)}
}

// fromLast takes the words of the sample whose letter that many from the last one is a; it has 2 to that power of situations.
func fromLast(k int) api.Auto {
	x := automaton(k+1, []int{k}, "0a0", "0b0", "0a1")
	for n := 1; n < k; n++ {
		x.Moves = append(x.Moves, api.Move{From: n, To: n + 1, Rune: 'a'}, api.Move{From: n, To: n + 1, Rune: 'b'})
	}
	return x
}

// TestP63MostSituations: the set of 0 alone counts once, states behind which no words end count, those that are not reached do not.
func TestP63MostSituations(t *testing.T) {
	a := api.Alphabet{Letters: []api.Letter{{Rune: 'a'}, {Rune: 'b'}, {Rune: 'c'}, {Rune: 'd'}}}
	full := fromLast(12)
	if l, steps := situations(a, fromLast(7)); len(l) != 128 || len(steps) != 256 {
		t.Fatal(len(l), len(steps))
	}
	for i, c := range []struct {
		x api.Auto
		e api.Errno
	}{
		{full, api.OK}, {and(full, 1, []int{13}, "13a13", "13b0", "13c13"), api.OK}, {and(full, 0, nil, "0c0"), api.OK}, {and(full, 0, nil, "0c1"), api.ErrCap}, {and(full, 1, nil, "0c13"), api.ErrCap}, {and(full, 1, nil, "13c13"), api.OK}, {and(full, 0, nil, "0c0", "0c1"), api.OK}, {and(full, 1, nil, "0c0", "0c13"), api.ErrCap}, {and(full, 0, nil, "12c0"), api.OK}, {and(full, 0, nil, "12c12"), api.ErrCap}, {fromLast(13), api.ErrCap},
		{api.Auto{States: full.States, Moves: full.Moves}, api.OK}, {and(api.Auto{States: full.States, Moves: full.Moves}, 1, nil, "0c13"), api.ErrCap}, {and(fromLast(11), 2, nil, "0c12", "12c13"), api.OK},
	} {
		if _, e := auto.Least(a, c.x); e != c.e {
			t.Error(i, e, c.e)
		}
		if c.e != api.OK {
			// These ask of Takes, too, which knows no cap.
			if _, e := auto.Takes(a, c.x, "ab"); e != api.OK {
				t.Error(i, e)
			}
			for _, call := range calls() {
				if e := call.of(a, c.x); e != api.ErrCap {
					t.Error(i, call.name, e)
				}
			}
		}
	}
}

// named is a call of one automaton that makes its least form.
type named struct {
	name string
	of   func(a api.Alphabet, x api.Auto) api.Errno
}

// calls are all that make an automaton's least form; what else they answer must be zero beside an error.
func calls() []named {
	zero := func(is bool, e api.Errno) api.Errno {
		if e != api.OK && !is {
			return -e
		}
		return e
	}
	of := func(x api.Auto, e api.Errno) api.Errno { return zero(same(x, api.Auto{}), e) }
	told := func(is bool, w string, e api.Errno) api.Errno { return zero(!is && w == "", e) }
	small := automaton(1, []int{0})
	return []named{
		{"Least", func(a api.Alphabet, x api.Auto) api.Errno { return of(auto.Least(a, x)) }},
		{"Not", func(a api.Alphabet, x api.Auto) api.Errno { return of(auto.Not(a, x)) }},
		{"Both", func(a api.Alphabet, x api.Auto) api.Errno { return of(auto.Both(a, x, small)) }},
		{"Both behind", func(a api.Alphabet, x api.Auto) api.Errno { return of(auto.Both(a, small, x)) }},
		{"Either", func(a api.Alphabet, x api.Auto) api.Errno { return of(auto.Either(a, x, small)) }},
		{"Either behind", func(a api.Alphabet, x api.Auto) api.Errno { return of(auto.Either(a, small, x)) }},
		{"Same", func(a api.Alphabet, x api.Auto) api.Errno { return told(auto.Same(a, x, small)) }},
		{"Same behind", func(a api.Alphabet, x api.Auto) api.Errno { return told(auto.Same(a, small, x)) }},
		{"Words", func(a api.Alphabet, x api.Auto) api.Errno {
			l, e := auto.Words(a, x, 0)
			return zero(len(l) == 0, e)
		}},
		{"Count", func(a api.Alphabet, x api.Auto) api.Errno {
			n, e := auto.Count(a, x, 0)
			return zero(n == 0, e)
		}},
	}
}

// TestP63MostSteps: 128 sets by 128 letters are just as many steps as may be.
func TestP63MostSteps(t *testing.T) {
	a := wide(128)
	seventh := func(letters int) api.Auto {
		x := api.Auto{States: 8, Ends: []int{7}, Moves: []api.Move{{From: 0, To: 1, Rune: a.Letters[0].Rune}}}
		for _, y := range a.Letters[:letters] {
			x.Moves = append(x.Moves, api.Move{From: 0, To: 0, Rune: y.Rune})
			for n := 1; n < 7; n++ {
				x.Moves = append(x.Moves, api.Move{From: n, To: n + 1, Rune: y.Rune})
			}
		}
		return x
	}
	last := a.Letters[127].Rune
	more := seventh(127)
	more.States += 2
	more.Moves = append(more.Moves, api.Move{From: 0, To: 8, Rune: last})
	beyond := more
	beyond.Moves = append(slices.Clone(more.Moves), api.Move{From: 8, To: 9, Rune: last})
	for i, c := range []struct {
		x api.Auto
		e api.Errno
	}{{seventh(128), api.OK}, {seventh(127), api.OK}, {more, api.OK}, {beyond, api.ErrCap}, {cycle(a, 128, 3), api.OK}} {
		if _, e := auto.Least(a, c.x); e != c.e {
			t.Error(i, e)
		}
	}
	for _, call := range calls() {
		if e := call.of(a, beyond); e != api.ErrCap {
			t.Error(call.name, e)
		}
	}
}
