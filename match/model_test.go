package match_test

import (
	"fmt"
	"slices"
	"strings"
	"testing"

	"cognate/api"
	"cognate/match"
	"cognate/pattern"
)

// sample is the alphabet A of the chapter's examples.
func sample() api.Alphabet {
	return api.Alphabet{Features: []string{"vowel"}, Letters: []api.Letter{{Rune: 'a', Plus: 1}, {Rune: 'e', Plus: 1}, {Rune: 'p', Minus: 1}, {Rune: 't', Minus: 1}}}
}

// mixed has letters of one to four bytes, some with signs for all features, some for none.
func mixed() api.Alphabet {
	return api.Alphabet{
		Features: []string{"v", "n"},
		Letters:  []api.Letter{{Rune: 0x10330, Plus: 3}, {Rune: 'z', Plus: 1}, {Rune: 0xe9, Plus: 2, Minus: 1}, {Rune: 'Z'}, {Rune: 0x4e00, Minus: 3}},
	}
}

// wide has as many features and letters as may be.
func wide() api.Alphabet {
	var a api.Alphabet
	for i := range api.MaxFeatures {
		a.Features = append(a.Features, strings.Repeat("f", api.MaxName-1)+string(rune('a'+i)))
	}
	for i := range api.MaxLetters {
		plus := uint32(i*0x1f3) & 0xffffff
		a.Letters = append(a.Letters, api.Letter{Rune: rune(0x10ffff - 31*i), Plus: plus, Minus: ^plus & 0x5a5a5a})
	}
	return a
}

// parsed is a text's pattern.
func parsed(t *testing.T, a api.Alphabet, s string) api.Pattern {
	t.Helper()
	p, at, e := pattern.Parse(a, s)
	if e != api.OK {
		t.Fatalf("%.99q: %d, %d", s, at, e)
	}
	return p
}

// fine is what a call answered, which must be well.
func fine[T any](t *testing.T) func(x T, e api.Errno) T {
	return func(x T, e api.Errno) T {
		t.Helper()
		if e != api.OK {
			t.Fatal(x, e)
		}
		return x
	}
}

// found is what First answered.
type found struct {
	span api.Span
	is   bool
}

// first is First's answer, which must be well.
func first(t *testing.T, a api.Alphabet, p api.Pattern, w string) found {
	t.Helper()
	s, is, e := match.First(a, p, w)
	if e != api.OK {
		t.Fatal(e)
	}
	return found{s, is}
}

// spans are from and to, one behind the other.
func spans(l ...int) []api.Span {
	var out []api.Span
	for i := 0; i < len(l); i += 2 {
		out = append(out, api.Span{From: l[i], To: l[i+1]})
	}
	return out
}

// words are all words of at most that many letters, which are the first ones of the alphabet.
func words(a api.Alphabet, letters, most int) []string {
	l := []string{""}
	for from := 0; most > 0; most-- {
		to := len(l)
		for _, w := range l[from:to] {
			for _, x := range a.Letters[:letters] {
				l = append(l, w+string(x.Rune))
			}
		}
		from = to
	}
	return l
}

// texts are the texts of all patterns of just that many nodes, made of these leaves.
func texts(leaves []string, nodes int) []string {
	if nodes == 1 {
		return append([]string{"()", "{}"}, leaves...)
	}
	var l []string
	for _, s := range texts(leaves, nodes-1) {
		l = append(l, s+"*", s+"?", "("+s+")", "{"+s+"}")
	}
	for ahead := 1; ahead < nodes-1; ahead++ {
		for _, x := range texts(leaves, ahead) {
			for _, y := range texts(leaves, nodes-1-ahead) {
				l = append(l, "("+x+y+")", "{"+x+"|"+y+"}")
			}
		}
	}
	return l
}

// smallTexts are the texts of all small patterns of the sample.
func smallTexts() []string {
	var l []string
	for nodes := range 4 {
		l = append(l, texts([]string{"~", "a", "[+vowel]", "[-vowel]", ".", "#"}, nodes+1)...)
	}
	return append(l, texts([]string{"a", ".", "#"}, 5)...)
}

// relation tells from which place to which one something lies.
type relation [][]bool

// among is the relation of all pairs of places, from the first one on, for which is holds.
func among(size int, is func(from, to int) bool) relation {
	r := make(relation, size)
	for from := range r {
		r[from] = make([]bool, size)
		for to := from; to < size; to++ {
			r[from][to] = is(from, to)
		}
	}
	return r
}

// lying is what the chapter says of a pattern in a word, as relations: each node's is made of its kids', the last node's first.
func lying(a api.Alphabet, p api.Pattern, w string) relation {
	letters := []rune(w)
	size := len(letters) + 1
	same := func(from, to int) bool { return from == to }
	one := func(is func(x api.Letter) bool) relation {
		return among(size, func(from, to int) bool {
			return to == from+1 && slices.ContainsFunc(a.Letters, func(x api.Letter) bool { return x.Rune == letters[from] && is(x) })
		})
	}
	l := make([]relation, len(p.Nodes))
	for i := len(p.Nodes) - 1; i >= 0; i-- {
		n := p.Nodes[i]
		switch n.Kind {
		case api.PatEmpty:
			l[i] = among(size, same)
		case api.PatRune:
			l[i] = one(func(x api.Letter) bool { return x.Rune == n.Rune })
		case api.PatClass:
			l[i] = one(func(x api.Letter) bool { return n.Plus&^x.Plus == 0 && n.Minus&^x.Minus == 0 })
		case api.PatAny:
			l[i] = one(func(api.Letter) bool { return true })
		case api.PatEdge:
			l[i] = among(size, func(from, to int) bool { return from == to && (from == 0 || from == len(letters)) })
		case api.PatSeq:
			l[i] = among(size, same)
			for _, k := range n.Kids {
				l[i] = behind(l[i], l[k])
			}
		case api.PatOr:
			l[i] = among(size, func(from, to int) bool {
				return slices.ContainsFunc(n.Kids, func(k int) bool { return l[k][from][to] })
			})
		case api.PatStar:
			l[i] = anyTimes(l[n.Kids[0]])
		case api.PatOpt:
			kid := l[n.Kids[0]]
			l[i] = among(size, func(from, to int) bool { return from == to || kid[from][to] })
		}
	}
	return l[0]
}

// behind is a relation and then another one.
func behind(one, other relation) relation {
	return among(len(one), func(from, to int) bool {
		for at := from; at <= to; at++ {
			if one[from][at] && other[at][to] {
				return true
			}
		}
		return false
	})
}

// anyTimes is a relation any number of times: at most as often as there are letters, but for times that take none.
func anyTimes(r relation) relation {
	out := among(len(r), func(from, to int) bool { return from == to || r[from][to] })
	for range len(r) {
		next := behind(out, out)
		if fmt.Sprint(next) == fmt.Sprint(out) {
			break
		}
		out = next
	}
	return out
}

// toFrom are the places to which it lies from one.
func (r relation) toFrom(from int) []int {
	var l []int
	for to := range r {
		if r[from][to] {
			l = append(l, to)
		}
	}
	return l
}

// fromTo are the places from which it lies to one.
func (r relation) fromTo(to int) []int {
	var l []int
	for from := range r {
		if r[from][to] {
			l = append(l, from)
		}
	}
	return l
}

// longest is the greatest place to which it lies from one, -1: none.
func (r relation) longest(from int) int {
	if l := r.toFrom(from); len(l) > 0 {
		return l[len(l)-1]
	}
	return -1
}

// first is what First must answer.
func (r relation) first() found {
	for from := range r {
		if to := r.longest(from); to >= 0 {
			return found{api.Span{From: from, To: to}, true}
		}
	}
	return found{}
}

// all is what All must answer.
func (r relation) all() []api.Span {
	var l []api.Span
	for at := 0; at < len(r); {
		to := r.longest(at)
		if to >= 0 {
			l = append(l, api.Span{From: at, To: to})
		}
		if to > at {
			at = to
		} else {
			at++
		}
	}
	return l
}

// dice tells numbers that look as if they were thrown, the same ones each time.
type dice uint32

func (d *dice) roll(sides int) int {
	*d = *d*1664525 + 1013904223
	return int(*d>>8) % sides
}

// letter is some letter, most often one of the first ones.
func (d *dice) letter(a api.Alphabet) api.Letter {
	return a.Letters[d.roll(1+d.roll(1+d.roll(len(a.Letters))))]
}

// word is some word of that many letters.
func (d *dice) word(a api.Alphabet, letters int) string {
	var s strings.Builder
	for range letters {
		s.WriteRune(d.letter(a).Rune)
	}
	return s.String()
}

// pattern is some pattern of that many nodes; each node but the node 0 is the kid of any one ahead of it that may have one more.
func (d *dice) pattern(a api.Alphabet, nodes int) api.Pattern {
	kinds := []uint8{api.PatSeq, api.PatSeq, api.PatOr, api.PatStar, api.PatStar, api.PatOpt}
	l := []api.Node{{Kind: kinds[d.roll(2)]}}
	for len(l) < nodes {
		k := d.roll(len(l))
		if single := l[k].Kind == api.PatStar || l[k].Kind == api.PatOpt; single && len(l[k].Kids) > 0 {
			continue
		}
		l[k].Kids = append(l[k].Kids, len(l))
		l = append(l, api.Node{Kind: kinds[d.roll(len(kinds))]})
	}
	for i, n := range l {
		if len(n.Kids) == 0 {
			l[i] = d.leaf(a)
		}
	}
	return api.Pattern{Nodes: l}
}

// leaf is some node without kids.
func (d *dice) leaf(a api.Alphabet) api.Node {
	x := d.letter(a)
	switch d.roll(12) {
	case 0, 1, 2:
		return api.Node{Kind: api.PatRune, Rune: x.Rune}
	case 3, 4, 5, 6, 7:
		mask := uint32(d.roll(1 << len(a.Features)))
		return api.Node{Kind: api.PatClass, Plus: x.Plus & mask, Minus: x.Minus & mask}
	case 8, 9:
		return api.Node{Kind: api.PatAny}
	case 10:
		return api.Node{Kind: api.PatEdge}
	}
	return api.Node{Kind: api.PatEmpty}
}

// drawn hands on patterns of all sizes and words of all lengths.
func drawn(times int, see func(a api.Alphabet, p api.Pattern, w string)) {
	d := dice(1)
	alphabets := []api.Alphabet{sample(), mixed(), wide()}
	for i := range times {
		a := alphabets[i%len(alphabets)]
		nodes, letters := 1+d.roll(12), d.roll(9)
		if i%64 == 0 {
			nodes, letters = 1+d.roll(api.MaxNodes), d.roll(api.MaxWord+1)
		}
		see(a, d.pattern(a, nodes), d.word(a, letters))
	}
}
