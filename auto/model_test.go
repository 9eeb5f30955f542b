package auto_test

import (
	"fmt"
	"slices"
	"strings"
	"testing"

	"cognate/api"
	"cognate/auto"
	"cognate/pattern"
)

// sample is the alphabet A of the chapter's examples.
func sample() api.Alphabet { return api.Alphabet{Letters: []api.Letter{{Rune: 'a'}, {Rune: 'b'}}} }

// mixed has letters of one to four bytes, which do not rise, and features.
func mixed() api.Alphabet {
	return api.Alphabet{
		Features: []string{"v", "n"},
		Letters:  []api.Letter{{Rune: 0x10330, Plus: 3}, {Rune: 'z', Plus: 1}, {Rune: 0xe9, Plus: 2, Minus: 1}, {Rune: 'Z'}, {Rune: 0x4e00, Minus: 3}},
	}
}

// wide has that many letters, whose runes fall; letter number i has the features of its bits.
func wide(letters int) api.Alphabet {
	a := api.Alphabet{Features: []string{"a", "b", "c", "d", "e", "f", "g"}}
	for i := range letters {
		a.Letters = append(a.Letters, api.Letter{Rune: rune(0x5000 - i), Plus: uint32(i), Minus: ^uint32(i) & 127})
	}
	return a
}

// parsed is a text's pattern.
func parsed(t *testing.T, a api.Alphabet, s string) api.Pattern {
	t.Helper()
	p, at, e := pattern.Parse(a, s)
	if e != api.OK {
		t.Fatalf("%.99q: %d, %d", s, at, e)
	}
	return p
}

// fine is what a call answered, which must be well.
func fine[T any](t *testing.T) func(x T, e api.Errno) T {
	return func(x T, e api.Errno) T {
		t.Helper()
		if e != api.OK {
			t.Fatal(x, e)
		}
		return x
	}
}

// same tells whether two automata are the same, number by number.
func same(x, y api.Auto) bool {
	return x.States == y.States && slices.Equal(x.Ends, y.Ends) && slices.Equal(x.Moves, y.Moves)
}

// moves reads moves: a state, a letter, a state.
func moves(l ...string) []api.Move {
	var out []api.Move
	for _, s := range l {
		var x api.Move
		if n, _ := fmt.Sscanf(s, "%d%c%d", &x.From, &x.Rune, &x.To); n != 3 {
			panic(s)
		}
		out = append(out, x)
	}
	return out
}

// automaton is one of that many states, ends and moves.
func automaton(states int, ends []int, l ...string) api.Auto {
	return api.Auto{States: states, Ends: ends, Moves: moves(l...)}
}

// words are all words of at most that many letters: the shorter ones first, those of one length in the row.
func words(a api.Alphabet, most int) []string {
	l := []string{""}
	for from := 0; most > 0; most-- {
		to := len(l)
		for _, w := range l[from:to] {
			for _, x := range a.Letters {
				l = append(l, w+string(x.Rune))
			}
		}
		from = to
	}
	return l
}

// goes tells whether some way goes from a state along letters to an end.
func goes(x api.Auto, state int, letters []rune) bool {
	if len(letters) == 0 {
		return slices.Contains(x.Ends, state)
	}
	return slices.ContainsFunc(x.Moves, func(m api.Move) bool {
		return m.From == state && m.Rune == letters[0] && goes(x, m.To, letters[1:])
	})
}

// takes tells whether an automaton takes a word.
func takes(x api.Auto, w string) bool { return goes(x, 0, []rune(w)) }

// taken are those of some words that an automaton takes.
func taken(x api.Auto, l []string) []string {
	return slices.DeleteFunc(slices.Clone(l), func(w string) bool { return !takes(x, w) })
}

// formOf is the least form of the words for which is holds: beginnings are told from one another by what follows, of at most that many letters.
func formOf(a api.Alphabet, most int, is func(w string) bool) api.Auto {
	behind := words(a, most)
	row := func(w string) string {
		var s strings.Builder
		for _, x := range behind {
			if is(w + x) {
				s.WriteByte('+')
			} else {
				s.WriteByte('-')
			}
		}
		return s.String()
	}
	begins, rows := []string{""}, []string{row("")}
	var out api.Auto
	for i := 0; i < len(begins); i++ {
		if is(begins[i]) {
			out.Ends = append(out.Ends, i)
		}
		for _, x := range a.Letters {
			w := begins[i] + string(x.Rune)
			r := row(w)
			if !strings.Contains(r, "+") {
				continue
			}
			to := slices.Index(rows, r)
			if to < 0 {
				to = len(rows)
				begins, rows = append(begins, w), append(rows, r)
			}
			out.Moves = append(out.Moves, api.Move{From: i, To: to, Rune: x.Rune})
		}
	}
	out.States = len(begins)
	return out
}

// situations are an automaton's, as sets of states that rise, each behind the letters that lead to it; and its steps, by the numbers of both.
func situations(a api.Alphabet, x api.Auto) (l [][]int, steps []api.Move) {
	l = [][]int{{0}}
	for i := 0; i < len(l); i++ {
		for _, y := range a.Letters {
			var next []int
			for _, m := range x.Moves {
				if m.Rune == y.Rune && slices.Contains(l[i], m.From) && !slices.Contains(next, m.To) {
					next = append(next, m.To)
				}
			}
			if len(next) == 0 {
				continue
			}
			slices.Sort(next)
			to := slices.IndexFunc(l, func(s []int) bool { return slices.Equal(s, next) })
			if to < 0 {
				to = len(l)
				l = append(l, next)
			}
			steps = append(steps, api.Move{From: i, To: to, Rune: y.Rune})
		}
	}
	return l, steps
}

// setsOf is an automaton whose states are another one's situations.
func setsOf(a api.Alphabet, x api.Auto) api.Auto {
	l, steps := situations(a, x)
	out := api.Auto{States: len(l), Moves: steps}
	for i, s := range l {
		if slices.ContainsFunc(s, func(n int) bool { return slices.Contains(x.Ends, n) }) {
			out.Ends = append(out.Ends, i)
		}
	}
	return out
}

// dead is the state from which no words go, of those that told tells.
const dead = -1

// told is where an automaton with one way for each word goes from a state by a letter.
func told(x api.Auto) func(state int, r rune) int {
	to := map[[2]int]int{}
	for _, m := range x.Moves {
		to[[2]int{m.From, int(m.Rune)}] = m.To + 1
	}
	return func(state int, r rune) int { return to[[2]int{state, int(r)}] - 1 }
}

// unlike tells of all pairs of states, the dead one too, whether some words can follow just one of them: pairs are added till none is new.
func unlike(a api.Alphabet, x api.Auto) func(n, m int) bool {
	next := told(x)
	apart := map[[2]int]bool{}
	for n := dead; n < x.States; n++ {
		for m := dead; m < x.States; m++ {
			apart[[2]int{n, m}] = slices.Contains(x.Ends, n) != slices.Contains(x.Ends, m)
		}
	}
	for again := true; again; {
		again = false
		for n := dead; n < x.States; n++ {
			for m := dead; m < x.States; m++ {
				is := slices.ContainsFunc(a.Letters, func(y api.Letter) bool { return apart[[2]int{next(n, y.Rune), next(m, y.Rune)}] })
				if is && !apart[[2]int{n, m}] {
					apart[[2]int{n, m}] = true
					again = true
				}
			}
		}
	}
	return func(n, m int) bool { return apart[[2]int{n, m}] }
}

// least is what the chapter says of an automaton's least form, put together slowly.
func least(a api.Alphabet, x api.Auto) api.Auto {
	x = setsOf(a, x)
	next, apart := told(x), unlike(a, x)
	l := []int{0}
	var out api.Auto
	for i := 0; i < len(l); i++ {
		if slices.Contains(x.Ends, l[i]) {
			out.Ends = append(out.Ends, i)
		}
		for _, y := range a.Letters {
			n := next(l[i], y.Rune)
			if !apart(n, dead) {
				continue
			}
			to := slices.IndexFunc(l, func(m int) bool { return !apart(n, m) })
			if to < 0 {
				to = len(l)
				l = append(l, n)
			}
			out.Moves = append(out.Moves, api.Move{From: i, To: to, Rune: y.Rune})
		}
	}
	out.States = len(l)
	return out
}

// dice tells numbers that look as if they were thrown, the same ones each time.
type dice uint32

func (d *dice) roll(sides int) int {
	*d = *d*1664525 + 1013904223
	return int(*d>>8) % sides
}

// auto is some automaton of at most that many states and moves.
func (d *dice) auto(a api.Alphabet, states, most int) api.Auto {
	x := api.Auto{States: 1 + d.roll(states)}
	for n := range x.States {
		if d.roll(4) == 0 {
			x.Ends = append(x.Ends, n)
		}
	}
	for range d.roll(most + 1) {
		m := api.Move{From: d.roll(x.States), To: d.roll(x.States), Rune: a.Letters[d.roll(len(a.Letters))].Rune}
		if !slices.Contains(x.Moves, m) {
			x.Moves = append(x.Moves, m)
		}
	}
	return x
}

// drawn hands on pairs of automata of several sizes.
func drawn(times int, see func(a api.Alphabet, x, y api.Auto)) {
	d := dice(1)
	alphabets := []api.Alphabet{sample(), mixed(), wide(1), wide(3)}
	for i := range times {
		a := alphabets[i%len(alphabets)]
		see(a, d.auto(a, 1+i%7, 14), d.auto(a, 1+i%5, 9))
	}
}

// list is the automaton of a list of words.
func list(t *testing.T, a api.Alphabet, l ...string) api.Auto {
	t.Helper()
	return fine[api.Auto](t)(auto.List(a, l))
}
