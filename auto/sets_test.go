package auto_test

import (
	"slices"
	"strings"
	"testing"

	"cognate/api"
	"cognate/auto"
)

// product is an automaton of pairs of states, whose ends are those for which is holds; a state beyond the others is nowhere.
func product(a api.Alphabet, x, y api.Auto, is func(n, m bool) bool) api.Auto {
	x, y = setsOf(a, x), setsOf(a, y)
	from, to := told(x), told(y)
	l := [][2]int{{0, 0}}
	var out api.Auto
	for i := 0; i < len(l); i++ {
		if is(slices.Contains(x.Ends, l[i][0]), slices.Contains(y.Ends, l[i][1])) {
			out.Ends = append(out.Ends, i)
		}
		for _, r := range a.Letters {
			next := [2]int{from(l[i][0], r.Rune), to(l[i][1], r.Rune)}
			if !slices.Contains(l, next) {
				l = append(l, next)
			}
			out.Moves = append(out.Moves, api.Move{From: i, To: slices.Index(l, next), Rune: r.Rune})
		}
	}
	out.States = len(l)
	return out
}

func TestP64Sets(t *testing.T) {
	a := sample()
	all, none, empty := automaton(1, []int{0}, "0a0", "0b0"), api.Auto{States: 1}, automaton(1, []int{0})
	some := automaton(2, []int{1}, "0a1", "0b1", "1a1", "1b1")
	onlyA, aOrNothing := automaton(2, []int{1}, "0a1"), automaton(2, []int{0, 1}, "0a1")
	for i, c := range []struct{ x, not api.Auto }{
		{empty, some}, {some, empty}, {all, none}, {none, all}, {automaton(5, []int{2}), all}, {onlyA, automaton(3, []int{0, 2}, "0a1", "0b2", "1a2", "1b2", "2a2", "2b2")}, {automaton(2, []int{1}, "0a0", "0a1", "0b0"), automaton(2, []int{0}, "0a1", "0b0", "1a1", "1b0")},
	} {
		if x, e := auto.Not(a, c.x); !same(x, c.not) || e != api.OK {
			t.Error(i, x, e)
		}
	}
	for i, c := range []struct{ x, y, both, either api.Auto }{
		{some, aOrNothing, onlyA, all}, {none, none, none, none}, {none, all, none, all}, {empty, some, none, all}, {empty, aOrNothing, empty, aOrNothing}, {onlyA, automaton(2, []int{1}, "0b1"), none, automaton(2, []int{1}, "0a1", "0b1")}, {automaton(3, []int{2}, "0a1", "0b1", "1a2"), automaton(3, []int{2}, "0b1", "0a1", "1b2"), none, automaton(3, []int{2}, "0a1", "0b1", "1a2", "1b2")}, {automaton(2, []int{0}, "0a1", "1a0"), automaton(3, []int{0}, "0a1", "1a2", "2a0"), cycle(api.Alphabet{Letters: a.Letters[:1]}, 6, 0), cycle(api.Alphabet{Letters: a.Letters[:1]}, 6, 0, 2, 3, 4)},
	} {
		for k, two := range [][2]api.Auto{{c.x, c.y}, {c.y, c.x}} {
			if x, e := auto.Both(a, two[0], two[1]); !same(x, c.both) || e != api.OK {
				t.Error(i, k, "Both", x, e)
			}
			if x, e := auto.Either(a, two[0], two[1]); !same(x, c.either) || e != api.OK {
				t.Error(i, k, "Either", x, e)
			}
		}
	}
}

func TestP64Drawn(t *testing.T) {
	drawn(1500, func(a api.Alphabet, x, y api.Auto) {
		both := least(a, product(a, x, y, func(n, m bool) bool { return n && m }))
		if got, e := auto.Both(a, x, y); !same(got, both) || e != api.OK {
			t.Fatalf("Both of %v, %v: %v, %d, want %v", x, y, got, e, both)
		}
		either := least(a, product(a, x, y, func(n, m bool) bool { return n || m }))
		if got, e := auto.Either(a, x, y); !same(got, either) || e != api.OK {
			t.Fatalf("Either of %v, %v: %v, %d, want %v", x, y, got, e, either)
		}
		not := least(a, product(a, x, api.Auto{States: 1}, func(n, m bool) bool { return !n }))
		if got, e := auto.Not(a, x); !same(got, not) || e != api.OK {
			t.Fatalf("Not of %v: %v, %d, want %v", x, got, e, not)
		}
	})
}

// checkPairs asks Both and Either of two automata, either way round, which of them are too large.
func checkPairs(t *testing.T, name string, a api.Alphabet, x, y api.Auto, both, either api.Errno) {
	t.Helper()
	for k, two := range [][2]api.Auto{{x, y}, {y, x}} {
		if z, e := auto.Both(a, two[0], two[1]); e != both || e != api.OK && !same(z, api.Auto{}) {
			t.Errorf("%s, %d: Both %d, want %d", name, k, e, both)
		}
		if z, e := auto.Either(a, two[0], two[1]); e != either || e != api.OK && !same(z, api.Auto{}) {
			t.Errorf("%s, %d: Either %d, want %d", name, k, e, either)
		}
	}
}

// TestP64MostPairs: pairs count to which both come, and in Either those, too, to which one alone comes.
func TestP64MostPairs(t *testing.T) {
	one := wide(1)
	r := one.Letters[0].Rune
	checkPairs(t, "4095 pairs", one, cycle(one, 63, 0), cycle(one, 65, 0), api.OK, api.OK)
	checkPairs(t, "4096 pairs", one, cycle(one, 4096, 5), cycle(one, 512, 0), api.OK, api.OK)
	checkPairs(t, "4097 pairs", one, cycle(one, 17, 0), cycle(one, 241, 0), api.ErrCap, api.ErrCap)
	checkPairs(t, "4096 in a row", one, row(r, 4095, 4095), cycle(one, 64, 63), api.OK, api.ErrCap)
	checkPairs(t, "as many as the shorter row", one, row(r, 4095, 4095), row(r, 7, 7), api.OK, api.OK)
	checkPairs(t, "one alone goes on", one, row(r, 17, 17), cycle(one, 4096, 1), api.OK, api.ErrCap)
	checkPairs(t, "one alone goes on for 4096", one, row(r, 17, 17), row(r, 4095, 4095), api.OK, api.OK)
	// 4097 pairs of rings behind which no word of both ends: they count, too.
	checkPairs(t, "no word of both", one, and(cycle(one, 34, 0), 0, nil), and(cycle(one, 482, 1), 0, nil), api.ErrCap, api.ErrCap)
	two := sample()
	checkPairs(t, "4096 pairs of one", two, row('a', 2000, 2000), row('b', 2095, 2095), api.OK, api.OK)
	checkPairs(t, "4097 pairs of one", two, row('a', 2000, 2000), row('b', 2096, 2096), api.OK, api.ErrCap)
	// Only what is left in the least forms goes in pairs.
	checkPairs(t, "no words", one, api.Auto{States: 17, Moves: cycle(one, 17).Moves}, cycle(one, 4095, 0), api.OK, api.OK)
	// Nowhere and the ring's first state are a pair of their own.
	checkPairs(t, "no words", one, api.Auto{States: 17, Moves: cycle(one, 17).Moves}, cycle(one, 4096, 0), api.OK, api.ErrCap)
	checkPairs(t, "all words", one, cycle(one, 4, 0, 1, 2, 3), cycle(one, 241, 0), api.OK, api.OK)
	checkPairs(t, "fewer classes", one, cycle(one, 34, 0, 17), cycle(one, 482, 0, 241), api.ErrCap, api.ErrCap)
	checkPairs(t, "fewer classes", one, cycle(one, 30, 0, 15), cycle(one, 482, 0, 241), api.OK, api.OK)
	if x := fine[api.Auto](t)(auto.Both(one, cycle(one, 63, 0), cycle(one, 65, 0))); !same(x, cycle(one, 4095, 0)) {
		t.Error(x.States)
	}
}

// TestP64MostPairsByLetters: each pair counts once for each letter that leads on.
func TestP64MostPairsByLetters(t *testing.T) {
	a := wide(128)
	l := cycle(a, 64, 0)
	checkPairs(t, "128 pairs", a, cycle(a, 128, 0), l, api.OK, api.OK)
	checkPairs(t, "129 pairs", a, cycle(a, 3, 0), cycle(a, 43, 0), api.ErrCap, api.ErrCap)
	few := a
	few.Letters = a.Letters[:127]
	checkPairs(t, "129 pairs by 127 letters", a, cycle(few, 3, 0), cycle(few, 43, 0), api.OK, api.OK)
	// 130 by 126 are 4 fewer than may be; the more are those of rows by one letter more.
	ring := func(states, more int) api.Auto {
		x := api.Auto{States: states + 1 + more, Ends: []int{states, states + more}}
		for n := range states + 1 {
			for _, y := range a.Letters[:126] {
				x.Moves = append(x.Moves, api.Move{From: n, To: n%states + 1, Rune: y.Rune})
			}
		}
		for n, from := states+1, 0; n < x.States; n++ {
			x.Moves = append(x.Moves, api.Move{From: from, To: n, Rune: a.Letters[126].Rune})
			from = n
		}
		x.Ends = slices.Compact(x.Ends)
		return x
	}
	checkPairs(t, "none more", a, ring(3, 0), ring(43, 0), api.OK, api.OK)
	checkPairs(t, "4 more", a, ring(3, 4), ring(43, 4), api.OK, api.OK)
	checkPairs(t, "5 more", a, ring(3, 5), ring(43, 5), api.ErrCap, api.ErrCap)
	checkPairs(t, "4 more of one", a, ring(3, 4), ring(43, 0), api.OK, api.OK)
	checkPairs(t, "5 more of one", a, ring(3, 5), ring(43, 0), api.OK, api.ErrCap)
	checkPairs(t, "5 more of one, 4 of both", a, ring(3, 5), ring(43, 4), api.OK, api.ErrCap)
}

func TestP64MostOfNot(t *testing.T) {
	for _, c := range []struct {
		letters, states int
		e               api.Errno
	}{
		{1, 4095, api.OK}, {1, 4096, api.ErrCap}, {4, 4095, api.OK}, {4, 4096, api.ErrCap}, {5, 3275, api.OK}, {5, 3276, api.ErrCap}, {128, 127, api.OK}, {128, 128, api.ErrCap}, {127, 128, api.OK}, {127, 129, api.ErrCap}, {2, 4095, api.OK},
	} {
		a := wide(c.letters)
		x := cycle(a, c.states, 0)
		if x.States*c.letters > api.MaxArcs {
			t.Fatal(c)
		}
		z, e := auto.Not(a, x)
		if e != c.e || e != api.OK && !same(z, api.Auto{}) {
			t.Errorf("%v: %d", c, e)
		}
		if e == api.OK && (z.States != c.states || len(z.Ends) != c.states-1 || !slices.Equal(z.Moves, x.Moves)) {
			t.Errorf("%v: %d, %d", c, z.States, len(z.Ends))
		}
		// By one letter alone all others lead to one state more.
		y := row(a.Letters[0].Rune, c.states-1, c.states-1)
		z, e = auto.Not(a, y)
		if e != c.e || e == api.OK && (z.States != c.states+1 || len(z.Moves) != z.States*c.letters) {
			t.Errorf("%v: %d, %d", c, z.States, e)
		}
	}
	// The states of the least form alone count.
	if z, e := auto.Not(sample(), api.Auto{States: 4096}); z.States != 1 || e != api.OK {
		t.Error(z, e)
	}
	if z, e := auto.Not(wide(128), cycle(wide(128), 128, 0, 64)); z.States != 64 || e != api.OK {
		t.Error(z.States, e)
	}
}

// TestP64TooLargeFirst: both are made least ahead of being put together, whatever the other one takes.
func TestP64TooLargeFirst(t *testing.T) {
	large := fromLast(13)
	for _, x := range []api.Auto{{States: 1}, automaton(1, []int{0}), large} {
		checkPairs(t, "too large", sample(), x, large, api.ErrCap, api.ErrCap)
		checkPairs(t, "without ends", sample(), x, api.Auto{States: large.States, Moves: large.Moves}, api.ErrCap, api.ErrCap)
	}
	if is, w, e := auto.Same(sample(), large, large); is || w != "" || e != api.ErrCap {
		t.Error(is, w, e)
	}
	if x, e := auto.Not(sample(), large); !same(x, api.Auto{}) || e != api.ErrCap {
		t.Error(x, e)
	}
}

func TestP65Same(t *testing.T) {
	a := sample()
	for i, c := range []struct {
		x, y []string
		w    string
	}{
		{[]string{"a", "b"}, []string{"a"}, "b"}, {nil, []string{""}, ""}, {[]string{"bb", "ab"}, nil, "ab"}, {[]string{"b", "aaa"}, []string{"ab"}, "b"}, {[]string{"ab"}, []string{"ba"}, "ab"}, {[]string{"a", "aa"}, []string{"a", "b", "aab"}, "b"}, {[]string{"", "abab"}, []string{""}, "abab"}, {[]string{"aaa", "ba"}, []string{"aaa", "bb"}, "ba"}, {[]string{"aab", "bbb"}, []string{"aab", "bba", "bbb"}, "bba"}, {[]string{strings.Repeat("a", 64)}, []string{strings.Repeat("a", 63) + "b"}, strings.Repeat("a", 64)},
	} {
		for k, two := range [][2]api.Auto{{trie(c.x), trie(c.y)}, {trie(c.y), trie(c.x)}} {
			if is, w, e := auto.Same(a, two[0], two[1]); is || w != c.w || e != api.OK {
				t.Error(i, k, is, w, e)
			}
		}
	}
	for i, c := range []struct{ x, y api.Auto }{
		{api.Auto{States: 1}, api.Auto{States: 7}}, {api.Auto{States: 1}, automaton(3, []int{2}, "0a1", "1a0")}, {automaton(1, []int{0}, "0a0"), automaton(3, []int{0, 1, 2}, "0a1", "1a2", "2a1", "1a0")}, {fromLast(3), fromLast(3)}, {fromLast(1), automaton(2, []int{1}, "0a1", "0b0", "1a1", "1b0")},
	} {
		if is, w, e := auto.Same(a, c.x, c.y); !is || w != "" || e != api.OK {
			t.Error(i, is, w, e)
		}
	}
	// The first one by the alphabet's order: that is 𐌰 here, then z.
	if is, w, e := auto.Same(mixed(), trie([]string{"z", "Z"}), trie([]string{"𐌰", "Z"})); is || w != "𐌰" || e != api.OK {
		t.Error(is, w, e)
	}
}

// firstOfOne is the first word that just one of two takes, among all of at most that many letters.
func firstOfOne(x, y api.Auto, l []string) (string, bool) {
	for _, w := range l {
		if takes(x, w) != takes(y, w) {
			return w, true
		}
	}
	return "", false
}

func TestP65Drawn(t *testing.T) {
	d := dice(17)
	drawn(1500, func(a api.Alphabet, x, y api.Auto) {
		few := a
		few.Letters = few.Letters[:min(3, len(few.Letters))]
		if d.roll(3) == 0 {
			// Nearly the same words are told apart late.
			y = api.Auto{States: x.States, Ends: x.Ends, Moves: slices.Clone(x.Moves)}
			if len(y.Moves) > 0 {
				k := d.roll(len(y.Moves))
				y.Moves = slices.Delete(y.Moves, k, k+1)
			}
		}
		l := words(a, 3)
		if len(a.Letters) < 4 {
			l = words(a, 6)
		}
		is, w, e := auto.Same(a, x, y)
		want, apart := firstOfOne(x, y, l)
		if e != api.OK || apart && (is || w != want) {
			t.Fatalf("%v, %v: %t, %q, %d, want %q", x, y, is, w, e, want)
		}
		if !apart && !is && (len([]rune(w)) <= len([]rune(l[len(l)-1])) || takes(x, w) == takes(y, w)) {
			t.Fatalf("%v, %v: %q", x, y, w)
		}
		if is != same(least(a, x), least(a, y)) || is && w != "" {
			t.Fatalf("%v, %v: %t, %q", x, y, is, w)
		}
	})
}

// TestP65Longest asks for words of as many letters as may be, and of one more.
func TestP65Longest(t *testing.T) {
	for n := 254; n <= 260; n++ {
		long := strings.Repeat("b", n)
		for k, two := range [][2]api.Auto{{row('b', n, n), {States: 1}}, {{States: 1}, row('b', n, n)}, {row('b', n, 3, n), row('b', 3, 3)}, {cycle(wide(0), 1), row('b', n, n)}} {
			is, w, e := auto.Same(sample(), two[0], two[1])
			if n <= api.MaxForm && (is || w != long || e != api.OK) || n > api.MaxForm && (is || w != "" || e != api.ErrCap) {
				t.Error(n, k, is, w, e)
			}
		}
	}
	a := api.Alphabet{Letters: sample().Letters[:1]}
	if is, w, e := auto.Same(a, cycle(a, 4096, 4095), cycle(a, 4095, 4094)); is || w != "" || e != api.ErrCap {
		t.Error(is, w, e)
	}
	if is, w, e := auto.Same(a, cycle(a, 4096, 200, 4095), cycle(a, 4095, 4094)); is || w != strings.Repeat("a", 200) || e != api.OK {
		t.Error(is, w, e)
	}
	// Rings that part only behind all pairs of their states: of 16 million no list is made.
	all := []int{}
	for n := range 4095 {
		all = append(all, n)
	}
	if is, w, e := auto.Same(a, cycle(a, 4096, append(slices.Clone(all), 4095)...), cycle(a, 4095, all...)); !is || w != "" || e != api.OK {
		t.Error(is, w, e)
	}
	if is, w, e := auto.Same(a, cycle(a, 4096, all...), cycle(a, 4095, all[1:]...)); is || w != "" || e != api.OK {
		t.Error(is, w, e)
	}
}
