package auto_test

import (
	"fmt"
	"slices"
	"strings"
	"testing"

	"cognate/api"
	"cognate/auto"
	"cognate/match"
)

// texts are the texts of all patterns of just that many nodes, made of these leaves.
func texts(leaves []string, nodes int) []string {
	if nodes == 1 {
		return append([]string{"()", "{}"}, leaves...)
	}
	var l []string
	for _, s := range texts(leaves, nodes-1) {
		l = append(l, s+"*", s+"?", "("+s+")", "{"+s+"}")
	}
	for ahead := 1; ahead < nodes-1; ahead++ {
		for _, x := range texts(leaves, ahead) {
			for _, y := range texts(leaves, nodes-1-ahead) {
				l = append(l, "("+x+y+")", "{"+x+"|"+y+"}")
			}
		}
	}
	return l
}

// leaf is some node without kids.
func (d *dice) leaf(a api.Alphabet) api.Node {
	x := a.Letters[d.roll(len(a.Letters))]
	switch d.roll(12) {
	case 0, 1, 2, 3:
		return api.Node{Kind: api.PatRune, Rune: x.Rune}
	case 4, 5, 6, 7:
		mask := uint32(d.roll(1 << len(a.Features)))
		return api.Node{Kind: api.PatClass, Plus: x.Plus & mask, Minus: x.Minus & mask}
	case 8, 9:
		return api.Node{Kind: api.PatAny}
	case 10:
		return api.Node{Kind: api.PatEdge}
	}
	return api.Node{Kind: api.PatEmpty}
}

// pattern is some pattern of that many nodes; each node but the node 0 is the kid of any one ahead of it that may have one more.
func (d *dice) pattern(a api.Alphabet, nodes int) api.Pattern {
	kinds := []uint8{api.PatSeq, api.PatSeq, api.PatOr, api.PatStar, api.PatOpt}
	l := []api.Node{{Kind: kinds[d.roll(3)]}}
	for len(l) < nodes {
		k := d.roll(len(l))
		if single := l[k].Kind == api.PatStar || l[k].Kind == api.PatOpt; single && len(l[k].Kids) > 0 {
			continue
		}
		l[k].Kids = append(l[k].Kids, len(l))
		l = append(l, api.Node{Kind: kinds[d.roll(len(kinds))]})
	}
	for i, n := range l {
		if len(n.Kids) == 0 {
			l[i] = d.leaf(a)
		}
	}
	return api.Pattern{Nodes: l}
}

// likes are those of some words that are like a pattern as a whole.
func likes(t *testing.T, a api.Alphabet, p api.Pattern, l []string) map[string]bool {
	t.Helper()
	out := map[string]bool{}
	for _, w := range l {
		out[w] = fine[bool](t)(match.Whole(a, p, w))
	}
	return out
}

func TestP62Of(t *testing.T) {
	loop := automaton(1, []int{0}, "0a0", "0b0")
	none, empty := api.Auto{States: 1}, automaton(1, []int{0})
	onlyA, onlyB := automaton(2, []int{1}, "0a1"), automaton(2, []int{1}, "0b1")
	for s, want := range map[string]api.Auto{
		"({a|b}*a)": automaton(2, []int{1}, "0a1", "0b0", "1a1", "1b0"), "{}": none, "~": empty, "()": empty, "#": empty, "a": onlyA, "b": onlyB, ".": automaton(2, []int{1}, "0a1", "0b1"), "[]": automaton(2, []int{1}, "0a1", "0b1"), ".*": loop, "{a|b}*": loop, "(a*b*)*": loop, "a?": automaton(2, []int{0, 1}, "0a1"),
		"(#a)": onlyA, "(a#)": onlyA, "(##a##)": onlyA, "(a#b)": none, "(a#?b)": automaton(3, []int{2}, "0a1", "1b2"), "(a#*b)": automaton(3, []int{2}, "0a1", "1b2"), "(#a)*": automaton(2, []int{0, 1}, "0a1"), "(a#)*": automaton(2, []int{0, 1}, "0a1"), "{#|a}*": automaton(1, []int{0}, "0a0"), "(a*#b)": onlyB, "(a#b*)": onlyA, "(a*#b*)": automaton(3, []int{0, 1, 2}, "0a1", "0b2", "1a1", "2b2"), "({#|b}a)*": automaton(3, []int{0, 1}, "0a1", "0b2", "1b2", "2a1"), "(a{#|b})*": automaton(2, []int{0, 1}, "0a1", "1b0"),
		"(a{})": none, "({}a)": none, "{{}|b}": onlyB, "{}*": empty, "{}?": empty, "(ab{})": none, "{(ab)|(bb)}": automaton(3, []int{2}, "0a1", "0b1", "1b2"), "{(ab)|(ba)}": automaton(4, []int{3}, "0a1", "0b2", "1b3", "2a3"), "{(ba)|(ab)}": automaton(4, []int{3}, "0a1", "0b2", "1b3", "2a3"),
		"(ba*)": automaton(2, []int{1}, "0b1", "1a1"), "(aa)*": automaton(2, []int{0}, "0a1", "1a0"), "(a?a?)": automaton(3, []int{0, 1, 2}, "0a1", "1a2"), "{a|(aa)|(aaa)}": automaton(4, []int{1, 2, 3}, "0a1", "1a2", "2a3"),
	} {
		if x, e := auto.Of(sample(), parsed(t, sample(), s)); !same(x, want) || e != api.OK {
			t.Errorf("%s: %v, %d, want %v", s, x, e, want)
		}
	}
}

// TestP62AlphabetsOrder: states are numbered by the letters' order, which is not that of their runes.
func TestP62AlphabetsOrder(t *testing.T) {
	for s, want := range map[string]api.Auto{
		"{(z𐌰)|(𐌰z)}": automaton(4, []int{3}, "0𐌰1", "0z2", "1z3", "2𐌰3"), "[+v]": automaton(2, []int{1}, "0𐌰1", "0z1"), "[-v]": automaton(2, []int{1}, "0é1", "0一1"), "[-v+n]": automaton(2, []int{1}, "0é1"), "[]": automaton(2, []int{1}, "0𐌰1", "0z1", "0é1", "0Z1", "0一1"), "{Z|z}": automaton(2, []int{1}, "0z1", "0Z1"), "([+v]一*)": automaton(2, []int{1}, "0𐌰1", "0z1", "1一1"),
	} {
		if x, e := auto.Of(mixed(), parsed(t, mixed(), s)); !same(x, want) || e != api.OK {
			t.Errorf("%s: %v, %d, want %v", s, x, e, want)
		}
	}
}

// TestP62AllSmall asks of all small patterns for the least form of the words that are like them.
func TestP62AllSmall(t *testing.T) {
	a := sample()
	l := words(a, 7)
	seen := map[string]bool{}
	for nodes := 1; nodes <= 5; nodes++ {
		leaves := []string{"~", "a", ".", "#", "b"}
		if nodes == 5 {
			leaves = []string{"a", "b", "#"}
		}
		for i, s := range texts(leaves, nodes) {
			if seen[s] || nodes == 5 && i%5 > 0 {
				continue
			}
			seen[s] = true
			p := parsed(t, a, s)
			is := likes(t, a, p, l)
			want := formOf(a, 3, func(w string) bool { return is[w] })
			if x, e := auto.Of(a, p); !same(x, want) || e != api.OK {
				t.Fatalf("%s: %v, %d, want %v", s, x, e, want)
			}
		}
	}
}

// TestP62Drawn asks of greater patterns whether they take just the words that are like them, in a least form.
func TestP62Drawn(t *testing.T) {
	d := dice(3)
	alphabets := []api.Alphabet{sample(), mixed(), wide(3), wide(128)}
	for i := range 800 {
		a := alphabets[i%len(alphabets)]
		p := d.pattern(a, 1+d.roll(16))
		x := fine[api.Auto](t)(auto.Of(a, p))
		few := a
		few.Letters = few.Letters[:min(5, len(few.Letters))]
		l := words(few, 3)
		for range 40 {
			l = append(l, d.word(a, 4+d.roll(9)))
		}
		for w, is := range likes(t, a, p, l) {
			if takes(x, w) != is {
				t.Fatalf("%v, %q: %t", p, w, !is)
			}
		}
		if len(a.Letters) < 128 && !same(x, least(a, x)) {
			t.Fatalf("%v: %v", p, x)
		}
	}
}

// word is some word of that many letters.
func (d *dice) word(a api.Alphabet, letters int) string {
	var s strings.Builder
	for range letters {
		s.WriteRune(a.Letters[d.roll(len(a.Letters))].Rune)
	}
	return s.String()
}

// paired is an alphabet of pairs of letters, each pair with a feature of its own, and of more letters.
func paired(more string) api.Alphabet {
	var a api.Alphabet
	for i := range 11 {
		a.Features = append(a.Features, string(rune('a'+i)))
		a.Letters = append(a.Letters, api.Letter{Rune: rune('a' + i), Plus: 1 << i}, api.Letter{Rune: rune('A' + i), Plus: 1 << i})
	}
	for _, r := range more {
		a.Letters = append(a.Letters, api.Letter{Rune: r})
	}
	return a
}

// most is the text of a pattern that has 4095 situations, and those of another one but its first: 2 and 4 and so on up to 2048 of the pairs' letters, and the first one.
func most(other string) string {
	var s strings.Builder
	for i := range 11 {
		class := fmt.Sprintf("[+%c]", 'a'+i)
		fmt.Fprintf(&s, "(%s*%c%s)|", class, 'a'+i, strings.Repeat(class, i))
	}
	return "{" + s.String() + other + "}"
}

// TestP62MostSituations adds to a pattern of 4095 situations others: one more is well, two are too many.
func TestP62MostSituations(t *testing.T) {
	a := paired("pqr")
	for s, e := range map[string]api.Errno{
		"~": api.OK, "#": api.OK, "{}": api.OK, "p": api.OK, "(pp)": api.ErrCap, "{p|q}": api.ErrCap, "{p|p}": api.OK, "p*": api.OK, "(p*p)": api.OK, "(p*q*)": api.ErrCap, "(p?p)": api.ErrCap, "{p|(pq)}": api.ErrCap, "[]": api.ErrCap,
		// Leaves behind which no word ends count, too; leaves to which one does not come do not.
		"(p{})": api.OK, "(pp{})": api.ErrCap, "({}p)": api.OK, "({}ppp)": api.OK, "(p{}p)": api.OK,
		"(p#)": api.OK, "(p#p)": api.OK, "(p#*p)": api.ErrCap, "(pp#)": api.ErrCap, "(#p)": api.OK, "(#pp)": api.ErrCap, "(p{#|~}p)": api.ErrCap, "(p#p#p)": api.OK, "(##p)": api.OK, "(#p)*": api.OK, "(#p#qq)": api.OK, "{#|p}*": api.OK, "(p*#q)": api.ErrCap, "(p#*q)": api.ErrCap,
	} {
		x, got := auto.Of(a, parsed(t, a, most(s)))
		if got != e || (e == api.OK) != (x.States > 2000) {
			t.Errorf("%s: %d states, %d, want %d", s, x.States, got, e)
		}
	}
}

// TestP62MostSteps hands in patterns of all letters: 128 steps a situation.
func TestP62MostSteps(t *testing.T) {
	a := wide(128)
	dots := strings.Repeat(".", 127)
	for s, e := range map[string]api.Errno{
		"(" + dots + ".)": api.OK, "(" + dots + "..)": api.ErrCap, "(" + dots + ".倀)": api.ErrCap, "(" + dots + "[+a][-a])": api.OK, "(" + dots + "[+a][-a]倀)": api.ErrCap, "(" + dots + ".{})": api.OK, "(" + dots + "{}..)": api.OK, "(" + dots + "..{})": api.ErrCap, "(" + dots + ".#.)": api.OK, "(#" + dots + ".#)": api.OK, "(" + dots + ".*)": api.ErrCap, "(" + dots[1:] + ".*)": api.OK,
	} {
		if _, got := auto.Of(a, parsed(t, a, s)); got != e {
			t.Errorf("%.20s (%d): %d, want %d", s, len(s), got, e)
		}
	}
}

// TestP62MostNodes hands in patterns of MaxNodes nodes, some with very many ways to go through.
func TestP62MostNodes(t *testing.T) {
	chain := func(letters int, ends ...int) api.Auto {
		x := api.Auto{States: letters + 1, Ends: ends}
		for i := range letters {
			x.Moves = append(x.Moves, api.Move{From: i, To: i + 1, Rune: 'a'})
		}
		return x
	}
	upTo := func(n int) []int {
		var l []int
		for i := range n + 1 {
			l = append(l, i)
		}
		return l
	}
	loop := automaton(1, []int{0}, "0a0")
	for s, want := range map[string]api.Auto{
		"a" + strings.Repeat("*", 255): loop, "a" + strings.Repeat("?", 255): chain(1, 0, 1), strings.Repeat("(", 255) + "a" + strings.Repeat(")", 255): chain(1, 1), strings.Repeat("{", 255) + "#" + strings.Repeat("}", 255): chain(0, 0),
		"(" + strings.Repeat("a", 255) + ")": chain(255, 255), "(" + strings.Repeat("a?", 127) + ")": chain(127, upTo(127)...), "(" + strings.Repeat("a?", 127) + ")*": loop, "(" + strings.Repeat("a*", 127) + ")*": loop, "(" + strings.Repeat("a*", 127) + "a)": automaton(2, []int{1}, "0a1", "1a1"), "{" + strings.Repeat("a|", 254) + "a}": chain(1, 1), "(" + strings.Repeat("a", 64) + strings.Repeat("~", 191) + ")": chain(64, 64), "(" + strings.Repeat("#", 254) + "a)": chain(1, 1),
	} {
		p := parsed(t, sample(), s)
		if len(p.Nodes) < api.MaxNodes-1 {
			t.Fatal(s, len(p.Nodes))
		}
		if x, e := auto.Of(sample(), p); !same(x, want) || e != api.OK {
			t.Errorf("%.20s: %v, %d", s, x, e)
		}
	}
	x, e := auto.Of(wide(128), parsed(t, wide(128), "{"+strings.Repeat(".|", 253)+".}*"))
	if x.States != 1 || !slices.Equal(x.Ends, []int{0}) || len(x.Moves) != 128 || e != api.OK {
		t.Error(x, e)
	}
}

// TestP62WideClasses asks for the letters of classes in an alphabet of more letters than a word has.
func TestP62WideClasses(t *testing.T) {
	for _, letters := range []int{63, 64, 65, 127, 128} {
		a := wide(letters)
		for bit, name := range a.Features {
			var want []api.Move
			for i, x := range a.Letters {
				if i>>bit&1 == 1 {
					want = append(want, api.Move{From: 0, To: 1, Rune: x.Rune})
				}
			}
			x := fine[api.Auto](t)(auto.Of(a, parsed(t, a, "[+"+name+"]")))
			if len(want) > 0 && (x.States != 2 || !slices.Equal(x.Moves, want)) || len(want) == 0 && x.States != 1 {
				t.Fatal(letters, name, x)
			}
		}
		last := string(a.Letters[letters-1].Rune)
		if x := fine[api.Auto](t)(auto.Of(a, parsed(t, a, last))); !same(x, automaton(2, []int{1}, "0"+last+"1")) {
			t.Fatal(letters, x)
		}
	}
}
