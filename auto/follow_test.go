package auto_test

import (
	"fmt"
	"reflect"
	"slices"
	"testing"

	"cognate/api"
	"cognate/auto"
	"cognate/match"
	"cognate/pattern"
)

// marked is an alphabet with marks in its spare room.
func marked(a api.Alphabet) api.Alphabet {
	return api.Alphabet{
		Features: append(slices.Clone(a.Features), "mark", "mark")[:len(a.Features)],
		Letters:  append(slices.Clone(a.Letters), api.Letter{Rune: 'M'}, api.Letter{Rune: 'N'})[:len(a.Letters)],
	}
}

// roomy is an automaton in memory of its own, with marks in its spare room.
func roomy(x api.Auto) api.Auto {
	mark := api.Move{From: -7, To: -7, Rune: 'M'}
	return api.Auto{States: x.States, Ends: append(slices.Clone(x.Ends), -7, -7)[:len(x.Ends)], Moves: append(slices.Clone(x.Moves), mark, mark)[:len(x.Moves)]}
}

// shown is all of what marked and roomy made, spare room too.
func shown(a api.Alphabet, x api.Auto) string {
	return fmt.Sprint(a.Features[:len(a.Features)+2], a.Letters[:len(a.Letters)+2], x.States, x.Ends[:len(x.Ends)+2], x.Moves[:len(x.Moves)+2])
}

// autos are all automata that the calls answer of two.
func autos(t *testing.T, a api.Alphabet, x, y api.Auto) []api.Auto {
	t.Helper()
	told := fine[api.Auto](t)
	return []api.Auto{told(auto.Least(a, x)), told(auto.Both(a, x, y)), told(auto.Either(a, x, y)), told(auto.Not(a, x))}
}

func TestP67OnlyRead(t *testing.T) {
	drawn(300, func(a api.Alphabet, x, y api.Auto) {
		b, z, other := marked(a), roomy(x), roomy(y)
		want, behind := shown(b, z), shown(b, other)
		autos(t, b, z, other)
		autos(t, b, other, z)
		auto.Check(b, z)
		auto.Takes(b, z, string(a.Letters[0].Rune))
		auto.Same(b, z, other)
		auto.Words(b, z, 99)
		auto.Count(b, z, 9)
		if got := shown(b, z); got != want {
			t.Fatal(got, want)
		}
		if got := shown(b, other); got != behind {
			t.Fatal(got, behind)
		}
	})
	l := append([]string{"b", "ab", "b", "", "a"}, "mark")[:5]
	p := parsed(t, sample(), "(a{b|a*})")
	p.Nodes = append(p.Nodes, api.Node{Kind: 77})[:len(p.Nodes)]
	for range 2 {
		auto.List(sample(), l)
		auto.Of(sample(), p)
	}
	if !slices.Equal(l[:6], []string{"b", "ab", "b", "", "a", "mark"}) || p.Nodes[:len(p.Nodes)+1][len(p.Nodes)].Kind != 77 || !reflect.DeepEqual(p, parsed(t, sample(), "(a{b|a*})")) {
		t.Error(l[:6], p)
	}
}

func TestP67NewMemory(t *testing.T) {
	drawn(300, func(a api.Alphabet, x, y api.Auto) {
		words := fine[[]string](t)
		one, again := autos(t, a, x, y), autos(t, a, x, y)
		wordsOfOne, wordsAgain := words(auto.Words(a, x, 9)), words(auto.Words(a, x, 9))
		want := fmt.Sprint(again, x, y, wordsAgain)
		for i := range one {
			// What is put behind one list, or over it, shows in no other one.
			_ = append(one[i].Ends, -1, -1)
			_ = append(one[i].Moves, api.Move{}, api.Move{})
			clear(one[i].Ends[:cap(one[i].Ends)])
			clear(one[i].Moves[:cap(one[i].Moves)])
		}
		clear(wordsOfOne[:cap(wordsOfOne)])
		if got := fmt.Sprint(again, x, y, wordsAgain); got != want {
			t.Fatal(got, want)
		}
		if got := fmt.Sprint(autos(t, a, x, y), x, y, words(auto.Words(a, x, 9))); got != want {
			t.Fatal(got, want)
		}
	})
}

// TestP67NothingKept changes what was handed in: the next answer is of what it is then.
func TestP67NothingKept(t *testing.T) {
	told := fine[api.Auto](t)
	a := sample()
	x := automaton(2, []int{1}, "0b1", "1a1")
	kept := told(auto.Least(a, x))
	a.Letters[0], a.Letters[1] = a.Letters[1], a.Letters[0]
	x.Ends[0] = 0
	x.Moves[1].To = 0
	if got := told(auto.Least(a, x)); !same(got, automaton(2, []int{0}, "0b1", "1a0")) || !same(kept, automaton(2, []int{1}, "0b1", "1a1")) {
		t.Error(got, kept)
	}
	a.Letters[1].Rune = 'c'
	if e := auto.Check(a, x); e != api.ErrAuto {
		t.Error(e)
	}
	p := pattern.Rune('b')
	kept = told(auto.Of(a, p))
	p.Nodes[0].Rune = 'c'
	if got := told(auto.Of(a, p)); !same(got, automaton(2, []int{1}, "0c1")) || !same(kept, automaton(2, []int{1}, "0b1")) {
		t.Error(got, kept)
	}
	l := []string{"b", "c"}
	kept = told(auto.List(a, l))
	l[0] = "bc"
	if got := told(auto.List(a, l)); !same(got, automaton(3, []int{2}, "0b1", "0c2", "1c2")) || !same(kept, automaton(2, []int{1}, "0b1", "0c1")) {
		t.Error(got, kept)
	}
}

// TestP68Takes asks of drawn automata and patterns, word by word, what is taken by what comes of them.
func TestP68Takes(t *testing.T) {
	is := fine[bool](t)
	d := dice(29)
	drawn(250, func(a api.Alphabet, x, y api.Auto) {
		p := d.pattern(a, 1+d.roll(9))
		l := autos(t, a, x, y)
		of := fine[api.Auto](t)(auto.Of(a, p))
		for _, w := range append(words(a, 2), d.word(a, 5), d.word(a, 9), d.word(a, 64)) {
			inX, inY := is(auto.Takes(a, x, w)), is(auto.Takes(a, y, w))
			for i, want := range []bool{inX, inX && inY, inX || inY, !inX} {
				if is(auto.Takes(a, l[i], w)) != want {
					t.Fatalf("%v, %v, %q: %d is %v", x, y, w, i, l[i])
				}
			}
			if is(auto.Takes(a, of, w)) != is(match.Whole(a, p, w)) {
				t.Fatalf("%v, %q: %v", p, w, of)
			}
		}
	})
}

func TestP68OneForm(t *testing.T) {
	told := fine[api.Auto](t)
	drawn(1000, func(a api.Alphabet, x, y api.Auto) {
		l := autos(t, a, x, y)
		for _, z := range l {
			if again := told(auto.Least(a, z)); !same(again, z) {
				t.Fatal(z, again)
			}
		}
		if again := told(auto.Not(a, l[3])); !same(again, l[0]) {
			t.Fatal(x, again, l[0])
		}
		is, _, e := auto.Same(a, x, y)
		if is != same(l[0], told(auto.Least(a, y))) || e != api.OK {
			t.Fatal(x, y, is, e)
		}
		// What neither takes is what Not of both takes.
		neither := told(auto.Not(a, l[2]))
		if z := told(auto.Both(a, l[3], told(auto.Not(a, y)))); !same(z, neither) {
			t.Fatal(x, y, z, neither)
		}
		for _, z := range []api.Auto{told(auto.Both(a, x, x)), told(auto.Either(a, x, x)), told(auto.Either(a, l[0], l[1])), told(auto.Both(a, l[2], x))} {
			if !same(z, l[0]) {
				t.Fatal(x, y, z, l[0])
			}
		}
	})
}

// TestP68Patterns asks that patterns put together are the automata put together.
func TestP68Patterns(t *testing.T) {
	told := fine[api.Auto](t)
	d := dice(31)
	for i := range 500 {
		a := []api.Alphabet{sample(), mixed(), wide(3)}[i%3]
		p, q := d.pattern(a, 1+d.roll(9)), d.pattern(a, 1+d.roll(9))
		either := fine[api.Pattern](t)(pattern.Or([]api.Pattern{p, q}))
		x, y := told(auto.Of(a, p)), told(auto.Of(a, q))
		if z := told(auto.Of(a, either)); !same(z, told(auto.Either(a, x, y))) || !same(x, told(auto.Least(a, x))) {
			t.Fatal(p, q, z)
		}
		if is, w, e := auto.Same(a, x, y); is != same(x, y) || e != api.OK || !is && fine[bool](t)(match.Whole(a, p, w)) == fine[bool](t)(match.Whole(a, q, w)) {
			t.Fatal(p, q, is, w, e)
		}
	}
}

func TestP69WordsAndCount(t *testing.T) {
	drawn(800, func(a api.Alphabet, x, y api.Auto) {
		l := fine[[]string](t)(auto.Words(a, x, 300))
		place := map[rune]int{}
		for i, y := range a.Letters {
			place[y.Rune] = i
		}
		counts := map[int]int{}
		for i, w := range l {
			if i > 0 && !ahead(place, l[i-1], w) || !takes(x, w) {
				t.Fatalf("%v: %q", x, l)
			}
			counts[len([]rune(w))]++
		}
		last := api.MaxForm + 1
		if len(l) == 300 {
			last = len([]rune(l[299]))
		}
		for long := range last {
			if n, e := auto.Count(a, x, long); n != counts[long] || e != api.OK {
				t.Fatalf("%v: %d of %d letters, %d, want %d", x, n, long, e, counts[long])
			}
		}
	})
}

// ahead tells whether a word stands ahead of another one, the shorter ones first.
func ahead(place map[rune]int, x, y string) bool {
	l, m := []rune(x), []rune(y)
	if len(l) != len(m) {
		return len(l) < len(m)
	}
	return slices.CompareFunc(l, m, func(r, s rune) int { return place[r] - place[s] }) < 0
}

func TestP69List(t *testing.T) {
	d := dice(37)
	for i := range 300 {
		a := []api.Alphabet{sample(), mixed(), wide(128)}[i%3]
		given := map[string]int{}
		var l []string
		for range d.roll(30) {
			w := d.word(a, d.roll(7))
			l = append(l, w)
			given[w]++
		}
		x := list(t, a, l...)
		got := fine[[]string](t)(auto.Words(a, x, api.MaxAnswers))
		if len(got) != len(given) {
			t.Fatalf("%q: %q", l, got)
		}
		for _, w := range got {
			if given[w] == 0 || !fine[bool](t)(auto.Takes(a, x, w)) {
				t.Fatalf("%q: %q", l, w)
			}
		}
		if again := list(t, a, got...); !same(again, x) {
			t.Fatalf("%q: %v, %v", l, x, again)
		}
	}
}
