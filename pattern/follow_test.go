package pattern_test

import (
	"reflect"
	"slices"
	"testing"

	"cognate/api"
	"cognate/pattern"
)

// copied is a pattern in memory of its own, with marks in its spare room.
func copied(p api.Pattern) api.Pattern {
	l := append(slices.Clone(p.Nodes), rn('M'), rn('M'))[:len(p.Nodes)]
	for i, n := range l {
		l[i].Kids = append(slices.Clone(n.Kids), -7, -7)[:len(n.Kids)]
	}
	return api.Pattern{Nodes: l}
}

// room is a pattern with its spare room shown.
func room(p api.Pattern) api.Pattern {
	l := slices.Clone(p.Nodes[:len(p.Nodes)+2])
	for i, n := range l[:len(p.Nodes)] {
		l[i].Kids = n.Kids[:len(n.Kids)+2]
	}
	return api.Pattern{Nodes: l}
}

// answers are the patterns that all calls make of a pattern that may be.
func answers(t *testing.T, p api.Pattern) []api.Pattern {
	made := fine[api.Pattern](t)
	s := fine[string](t)(pattern.Text(sample(), p))
	return []api.Pattern{
		made(pattern.Seq([]api.Pattern{p, p})), made(pattern.Or([]api.Pattern{p, p})), made(pattern.Seq([]api.Pattern{p})), made(pattern.Star(p)), made(pattern.Opt(p)), made(pattern.Turned(p)), parsed(t, sample(), s),
	}
}

// spoil changes all that a pattern's lists reach, spare room too.
func spoil(p api.Pattern) {
	for _, n := range p.Nodes {
		clear(n.Kids[:cap(n.Kids)])
	}
	clear(p.Nodes[:cap(p.Nodes)])
}

func TestP45OnlyRead(t *testing.T) {
	for _, p := range someTrees() {
		for _, q := range renumbered(p, 2) {
			handed, kept := copied(q), copied(q)
			answers(t, handed)
			pattern.Check(sample(), handed)
			pattern.Same(handed, handed)
			if !reflect.DeepEqual(room(handed), room(kept)) {
				t.Fatal(kept, handed)
			}
		}
	}
	for what, p := range wrongTrees() {
		handed, kept := copied(p), copied(p)
		pattern.Check(sample(), handed)
		pattern.Turned(handed)
		pattern.Same(handed, handed)
		pattern.Seq([]api.Pattern{handed})
		pattern.Star(handed)
		if !reflect.DeepEqual(room(handed), room(kept)) {
			t.Error(what)
		}
	}
}

func TestP45OnlyReadLists(t *testing.T) {
	a := sample()
	a.Features = append(a.Features, "mark")[:3]
	a.Letters = append(a.Letters, api.Letter{Rune: 'M'})[:6]
	l := append([]api.Pattern{pattern.Rune('a'), flat(api.PatSeq, 3)}, pattern.Rune('M'))[:2]
	pattern.Seq(l)
	pattern.Or(l)
	pattern.Check(a, l[1])
	pattern.Text(a, l[1])
	pattern.Parse(a, "([+voiced]ab*)")
	if !isSame(l[0], of(rn('a'))) || !isSame(l[1], flat(api.PatSeq, 3)) || !isSame(l[:3][2], of(rn('M'))) {
		t.Error(l[:3])
	}
	if !reflect.DeepEqual(a, sample()) || a.Features[:4][3] != "mark" || a.Letters[:7][6] != (api.Letter{Rune: 'M'}) {
		t.Error(a)
	}
}

func TestP45NewMemory(t *testing.T) {
	for _, p := range someTrees() {
		handed := copied(p)
		one, other := answers(t, handed), answers(t, handed)
		for _, q := range one {
			spoil(q)
		}
		if !reflect.DeepEqual(room(handed), room(copied(p))) {
			t.Fatal(p, handed)
		}
		spoil(handed)
		for i, want := range answers(t, p) {
			if !isSame(other[i], want) {
				t.Fatal(p, i, other[i])
			}
		}
	}
}

// TestP45ListsOfOneAnswer changes one node's kids after the other: no other list may show it.
func TestP45ListsOfOneAnswer(t *testing.T) {
	for _, p := range someTrees() {
		for i, q := range answers(t, p) {
			for k, n := range q.Nodes {
				want := copied(q)
				want.Nodes[k].Kids = nil
				_ = append(n.Kids, -9, -9, -9)
				clear(n.Kids[:cap(n.Kids)])
				got := copied(q)
				got.Nodes[k].Kids = nil
				if !isSame(got, want) {
					t.Fatal(p, i, k, got)
				}
			}
		}
	}
	for _, make := range []func() api.Pattern{pattern.Empty, func() api.Pattern { return pattern.Rune('a') }, func() api.Pattern { return pattern.Class(1, 2) }} {
		p, q := make(), make()
		spoil(p)
		if isSame(p, q) || !isSame(q, make()) {
			t.Error(q)
		}
	}
}

func TestP46ThereAndBack(t *testing.T) {
	for _, p := range someTrees() {
		for _, q := range renumbered(p, 3) {
			s := fine[string](t)(pattern.Text(sample(), q))
			r := parsed(t, sample(), s)
			if !pattern.Same(q, r) || fine[string](t)(pattern.Text(sample(), r)) != s {
				t.Fatal(q, s, r)
			}
		}
	}
	for _, p := range []api.Pattern{flat(api.PatSeq, 256), flat(api.PatOr, 256), chain(256), classes(80, 100)} {
		a := wide()
		if p.Nodes[len(p.Nodes)-1].Kind == api.PatRune {
			a = sample()
		}
		s := fine[string](t)(pattern.Text(a, p))
		if !pattern.Same(p, parsed(t, a, s)) {
			t.Error(len(s))
		}
	}
}

func TestP46Turned(t *testing.T) {
	made := fine[api.Pattern](t)
	for _, p := range someTrees() {
		if q := made(pattern.Turned(made(pattern.Turned(p)))); !pattern.Same(p, q) {
			t.Fatal(p, q)
		}
	}
	l := trees([]api.Node{rn('a'), rn('b')}, 3)
	for _, p := range l {
		for _, q := range l {
			whole := made(pattern.Turned(made(pattern.Seq([]api.Pattern{p, q, p}))))
			first, second := made(pattern.Turned(p)), made(pattern.Turned(q))
			if parts := made(pattern.Seq([]api.Pattern{first, second, first})); !pattern.Same(whole, parts) {
				t.Fatal(p, q, whole)
			}
			if parts := made(pattern.Or([]api.Pattern{first, second})); !pattern.Same(parts, made(pattern.Turned(made(pattern.Or([]api.Pattern{p, q}))))) {
				t.Fatal(p, q)
			}
		}
	}
}

// TestP46MadeMayBe asks whether what is made of patterns that may be may be, too.
func TestP46MadeMayBe(t *testing.T) {
	for _, p := range someTrees() {
		for i, q := range answers(t, p) {
			if e := pattern.Check(sample(), q); e != api.OK || !isTree(q) || !pattern.Same(q, q) {
				t.Fatal(p, i, q, e)
			}
		}
	}
	for _, n := range fieldNodes() {
		if n.Kind != api.PatRune && n.Kind != api.PatClass || !isTree(of(n)) {
			continue
		}
		e := pattern.Check(sample(), of(n))
		for _, c := range lists() {
			if q := fine[api.Pattern](t)(c.call([]api.Pattern{pattern.Empty(), of(n)})); !isTree(q) || pattern.Check(sample(), q) != e {
				t.Error(n, q)
			}
		}
	}
}
