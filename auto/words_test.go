package auto_test

import (
	"math"
	"slices"
	"strings"
	"testing"

	"cognate/api"
	"cognate/auto"
)

func TestP66Words(t *testing.T) {
	all := automaton(1, []int{0}, "0a0", "0b0")
	for i, c := range []struct {
		x    api.Auto
		most int
		want []string
	}{
		{trie([]string{"ab", "b"}), 9, []string{"b", "ab"}}, {trie([]string{"ab", "b"}), 1, []string{"b"}}, {trie([]string{"ab", "b"}), 0, nil}, {trie([]string{"ab", "b"}), 2, []string{"b", "ab"}}, {trie(nil), 9, nil}, {trie([]string{""}), 9, []string{""}}, {trie([]string{""}), 0, nil}, {trie([]string{"", "a"}), 1, []string{""}},
		{all, 5, []string{"", "a", "b", "aa", "ab"}}, {all, 1024, words(sample(), 10)[:1024]}, {all, 1023, words(sample(), 9)}, {api.Auto{States: 5, Moves: moves("0a1", "1a0")}, 9, nil}, {automaton(3, []int{1, 2}, "0a1", "0a2", "1b1", "2b2"), 3, []string{"a", "ab", "abb"}}, {automaton(4, []int{3}, "0b1", "0a2", "1a3", "2b3", "2b1"), 9, []string{"ab", "ba", "aba"}},
		{trie([]string{"bbb", "aab", "b", "abb", "aba"}), 4, []string{"b", "aab", "aba", "abb"}}, {automaton(3, []int{2}, "0a0", "0b1", "1a2"), 3, []string{"ba", "aba", "aaba"}},
	} {
		if l, e := auto.Words(sample(), c.x, c.most); !slices.Equal(l, c.want) || e != api.OK {
			t.Errorf("%d: %.99q, %d", i, l, e)
		}
	}
	if l, e := auto.Words(mixed(), trie([]string{"一", "z", "Z", "é", "𐌰", "zz", "z𐌰"}), 99); !slices.Equal(l, []string{"𐌰", "z", "é", "Z", "一", "z𐌰", "zz"}) || e != api.OK {
		t.Errorf("%q, %d", l, e)
	}
}

func TestP66Drawn(t *testing.T) {
	d := dice(23)
	drawn(1500, func(a api.Alphabet, x, y api.Auto) {
		long := 6
		if len(a.Letters) > 3 {
			long = 3
		}
		l := words(a, long)
		want := taken(x, l)
		most := min(api.MaxAnswers, []int{len(want), d.roll(len(want) + 1), api.MaxAnswers, d.roll(9)}[d.roll(4)])
		got, e := auto.Words(a, x, most)
		if n := min(len(got), len(want)); e != api.OK || !slices.Equal(got[:n], want[:n]) || len(got) > most || n < min(most, len(want)) {
			t.Fatalf("%v: %d of %d, %d, want %d", x, most, len(got), e, len(want))
		}
		counts := make([]int, long+1)
		for _, w := range want {
			counts[len([]rune(w))]++
		}
		for n, want := range counts {
			if got, e := auto.Count(a, x, n); got != want || e != api.OK {
				t.Fatalf("%v: %d of %d letters, %d, want %d", x, got, n, e, want)
			}
		}
	})
}

func TestP66Arguments(t *testing.T) {
	x := automaton(1, []int{0}, "0a0")
	for _, most := range []int{-1, 1025, math.MinInt, math.MaxInt, -1024} {
		if l, e := auto.Words(sample(), x, most); len(l) > 0 || e != api.ErrArg {
			t.Error(most, l, e)
		}
		// What is too large is told behind it.
		if l, e := auto.Words(sample(), fromLast(13), most); len(l) > 0 || e != api.ErrArg {
			t.Error(most, l, e)
		}
	}
	for _, long := range []int{-1, 257, math.MinInt, math.MaxInt, -256} {
		if n, e := auto.Count(sample(), x, long); n != 0 || e != api.ErrArg {
			t.Error(long, n, e)
		}
		if n, e := auto.Count(sample(), fromLast(13), long); n != 0 || e != api.ErrArg {
			t.Error(long, n, e)
		}
	}
	for _, n := range []int{0, 1, 256} {
		if l, e := auto.Words(sample(), fromLast(13), n); len(l) > 0 || e != api.ErrCap {
			t.Error(l, e)
		}
		if n, e := auto.Count(sample(), fromLast(13), n); n != 0 || e != api.ErrCap {
			t.Error(n, e)
		}
	}
}

// TestP66Longest: words have at most MaxForm letters.
func TestP66Longest(t *testing.T) {
	loop := automaton(1, []int{0}, "0a0")
	var all []string
	for n := range 257 {
		all = append(all, strings.Repeat("a", n))
	}
	for _, most := range []int{1024, 258, 257, 256, 7} {
		if l, e := auto.Words(sample(), loop, most); !slices.Equal(l, all[:min(most, 257)]) || e != api.OK {
			t.Error(most, len(l), e)
		}
	}
	for n := 255; n <= 258; n++ {
		want := []string{"b"}
		if n <= 256 {
			want = append(want, strings.Repeat("a", n-1)+"b")
		}
		x := row('a', n-1)
		x.States++
		x.Ends = []int{n}
		x.Moves = append(x.Moves, api.Move{From: n - 1, To: n, Rune: 'b'}, api.Move{From: 0, To: n, Rune: 'b'})
		if l, e := auto.Words(sample(), x, 1024); !slices.Equal(l, want) || e != api.OK {
			t.Error(n, len(l), e)
		}
		if k, e := auto.Count(sample(), x, min(n, 256)); k != len(want)-1 || e != api.OK {
			t.Error(n, k, e)
		}
	}
	if l, e := auto.Words(sample(), cycle(sample(), 257, 256), 9); len(l) != 9 || l[0] != strings.Repeat("a", 256) || l[8] != strings.Repeat("a", 252)+"baaa" || e != api.OK {
		t.Error(len(l), e)
	}
	if l, e := auto.Words(sample(), cycle(sample(), 258, 257), 9); len(l) != 0 || e != api.OK {
		t.Error(len(l), e)
	}
}

// TestP66Large asks of many states and letters for as many words as may be.
func TestP66Large(t *testing.T) {
	a := wide(128)
	x := cycle(a, 128, 127)
	l := fine[[]string](t)(auto.Words(a, x, 1024))
	var want []string
	first := strings.Repeat(string(a.Letters[0].Rune), 125)
	for n := range 1024 {
		want = append(want, first+string(a.Letters[n/128].Rune)+string(a.Letters[n%128].Rune))
	}
	if !slices.Equal(l, want) {
		t.Error(len(l), l[0], l[len(l)-1])
	}
	b := sample()
	y := cycle(b, 4096, 9, 4095)
	l = fine[[]string](t)(auto.Words(b, y, 1024))
	want = words(b, 9)[511:]
	if !slices.Equal(l[:512], want) || len(l) != 512 {
		t.Error(len(l))
	}
}

func TestP66Count(t *testing.T) {
	one, all := automaton(1, []int{0}, "0a0"), automaton(1, []int{0}, "0a0", "0b0")
	fork := automaton(5, []int{1, 4}, "0a1", "1a1", "1b1", "0b2", "2b3", "3b4", "2b2", "4b4")
	for i, c := range []struct {
		x       api.Auto
		long, n int
		e       api.Errno
	}{
		{trie([]string{"ab", "b"}), 0, 0, api.OK}, {trie([]string{"ab", "b"}), 1, 1, api.OK}, {trie([]string{"ab", "b"}), 2, 1, api.OK}, {trie([]string{"ab", "b"}), 3, 0, api.OK}, {trie([]string{"ab", "b"}), 256, 0, api.OK}, {trie([]string{""}), 0, 1, api.OK}, {trie(nil), 0, 0, api.OK}, {api.Auto{States: 3, Moves: moves("0a1", "1a2", "2b0")}, 9, 0, api.OK},
		{one, 256, 1, api.OK}, {all, 0, 1, api.OK}, {all, 10, 1024, api.OK}, {all, 39, 1 << 39, api.OK}, {all, 40, 1 << 40, api.OK}, {all, 41, 0, api.ErrCap}, {all, 62, 0, api.ErrCap}, {all, 63, 0, api.ErrCap}, {all, 64, 0, api.ErrCap}, {all, 65, 0, api.ErrCap}, {all, 128, 0, api.ErrCap}, {all, 256, 0, api.ErrCap},
		// By b there are others than by a; at 41 letters the b's are one more than 2^40.
		{fork, 40, 1<<39 + 1, api.OK}, {fork, 41, 0, api.ErrCap}, {fork, 42, 0, api.ErrCap}, {fork, 3, 5, api.OK}, {fork, 2, 2, api.OK},
		// Words count, not ways; many from states to which none of so many letters comes do not.
		{automaton(3, []int{1, 2}, "0a1", "0a2", "1a1", "1a2", "2a1", "2a2", "0b2", "2b1"), 2, 4, api.OK}, {automaton(4, []int{1, 3}, "0a1", "0b2", "1a1", "2a2", "2b2", "2a3"), 1, 1, api.OK}, {cycle(sample(), 3, 2), 255, 0, api.OK}, {cycle(sample(), 3, 2), 256, 0, api.OK}, {cycle(sample(), 3, 2), 254, 0, api.ErrCap}, {cycle(sample(), 256, 255), 256, 0, api.OK},
	} {
		if n, e := auto.Count(sample(), c.x, c.long); n != c.n || e != c.e {
			t.Error(i, n, e)
		}
	}
	for _, letters := range []int{3, 4, 16, 32, 127, 128} {
		a := wide(letters)
		want := 1
		for long := range 257 {
			n, e := auto.Count(a, cycle(a, 1, 0), long)
			if want <= 1<<40 && (n != want || e != api.OK) || want > 1<<40 && (n != 0 || e != api.ErrCap) {
				t.Error(letters, long, n, e)
			}
			want = min(want*letters, 1<<41)
		}
	}
}
