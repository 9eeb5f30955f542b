package pattern_test

import (
	"slices"
	"testing"

	"cognate/api"
	"cognate/pattern"
)

func TestP43Single(t *testing.T) {
	if p := pattern.Empty(); !isSame(p, of(leaf(api.PatEmpty))) {
		t.Error(p)
	}
	for _, n := range fieldNodes() {
		if p := pattern.Rune(n.Rune); !isSame(p, of(rn(n.Rune))) || !isTree(p) {
			t.Error(p)
		}
		if p := pattern.Class(n.Plus, n.Minus); !isSame(p, of(cls(n.Plus, n.Minus))) || !isTree(p) {
			t.Error(p)
		}
	}
}

// listed is a call of a list of patterns, and the kind of what it makes.
type listed struct {
	kind uint8
	call func(l []api.Pattern) (api.Pattern, api.Errno)
}

func lists() []listed { return []listed{{api.PatSeq, pattern.Seq}, {api.PatOr, pattern.Or}} }

// one is a call of one pattern, and the kind of what it makes.
type one struct {
	kind uint8
	call func(p api.Pattern) (api.Pattern, api.Errno)
}

func ones() []one { return []one{{api.PatStar, pattern.Star}, {api.PatOpt, pattern.Opt}} }

func TestP43Lists(t *testing.T) {
	for _, c := range lists() {
		for nodes := range 5 {
			for _, l := range forests([]api.Node{rn('a'), cls(9, 1), top(api.PatOr), top(api.PatSeq)}, nodes) {
				if p, e := c.call(l); !isSame(p, joined(c.kind, l)) || e != api.OK {
					t.Fatal(c.kind, l, p, e)
				}
			}
		}
		for _, l := range [][]api.Pattern{nil, {}} {
			if p, e := c.call(l); !isSame(p, of(leaf(c.kind))) || e != api.OK {
				t.Error(c.kind, p, e)
			}
		}
	}
}

func TestP43Ones(t *testing.T) {
	for _, c := range ones() {
		for _, p := range someTrees() {
			if q, e := c.call(p); !isSame(q, joined(c.kind, []api.Pattern{p})) || e != api.OK {
				t.Fatal(c.kind, p, q, e)
			}
		}
	}
}

// TestP43OneNumbering hands in patterns in other numberings.
func TestP43OneNumbering(t *testing.T) {
	for _, p := range trees([]api.Node{rn('a'), rn('b')}, 5) {
		for _, q := range renumbered(p, 4) {
			for _, c := range lists() {
				if r, e := c.call([]api.Pattern{q, p, q}); !isSame(r, joined(c.kind, []api.Pattern{p, p, p})) || e != api.OK {
					t.Fatal(c.kind, q, r, e)
				}
			}
			for _, c := range ones() {
				if r, e := c.call(q); !isSame(r, joined(c.kind, []api.Pattern{p})) || e != api.OK {
					t.Fatal(c.kind, q, r, e)
				}
			}
		}
	}
}

func TestP43Refuses(t *testing.T) {
	a := pattern.Rune('a')
	for what, p := range wrongTrees() {
		for _, c := range lists() {
			for _, l := range [][]api.Pattern{{p}, {a, p}, {p, a}, {flat(api.PatOr, 256), flat(api.PatOr, 256), p}, append(slices.Repeat([]api.Pattern{a}, 255), p)} {
				q, e := c.call(l)
				refused(t, what, q, e, api.ErrPattern)
			}
			q, e := c.call(append(slices.Repeat([]api.Pattern{a}, 256), p))
			refused(t, what, q, e, api.ErrMany)
		}
		for _, c := range ones() {
			q, e := c.call(p)
			refused(t, what, q, e, api.ErrPattern)
		}
	}
}

func TestP43Limits(t *testing.T) {
	a := pattern.Rune('a')
	for _, c := range lists() {
		for _, x := range []struct {
			l []api.Pattern
			e api.Errno
		}{
			{slices.Repeat([]api.Pattern{a}, 255), api.OK}, {slices.Repeat([]api.Pattern{a}, 256), api.ErrMany}, {slices.Repeat([]api.Pattern{a}, 257), api.ErrMany},
			{make([]api.Pattern, 256), api.ErrPattern}, {make([]api.Pattern, 257), api.ErrMany}, {make([]api.Pattern, 1<<16), api.ErrMany},
			{[]api.Pattern{flat(api.PatSeq, 255)}, api.OK}, {[]api.Pattern{flat(api.PatSeq, 256)}, api.ErrMany}, {[]api.Pattern{chain(100), flat(api.PatOr, 100), chain(55)}, api.OK}, {[]api.Pattern{chain(100), flat(api.PatOr, 100), chain(56)}, api.ErrMany}, {[]api.Pattern{chain(256), chain(256)}, api.ErrMany}, {[]api.Pattern{chain(256), chain(257)}, api.ErrPattern},
		} {
			p, e := c.call(x.l)
			if x.e != api.OK {
				refused(t, len(x.l), p, e, x.e)
			} else if e != api.OK || !isSame(p, joined(c.kind, x.l)) {
				t.Error(len(x.l), e)
			}
		}
	}
	for _, c := range ones() {
		if p, e := c.call(chain(255)); e != api.OK || len(p.Nodes) != 256 || !isTree(p) {
			t.Error(len(p.Nodes), e)
		}
		p, e := c.call(chain(256))
		refused(t, c.kind, p, e, api.ErrMany)
	}
}

// turned is a pattern with the kids of each Seq in the other order, from its last node to its first one.
func turned(p api.Pattern) api.Pattern {
	made := make([]api.Pattern, len(p.Nodes))
	for i := len(p.Nodes) - 1; i >= 0; i-- {
		n := p.Nodes[i]
		var kids []api.Pattern
		for _, k := range n.Kids {
			if n.Kind == api.PatSeq {
				kids = append([]api.Pattern{made[k]}, kids...)
			} else {
				kids = append(kids, made[k])
			}
		}
		made[i] = joined(n.Kind, kids)
		whole := n
		whole.Kids = made[i].Nodes[0].Kids
		made[i].Nodes[0] = whole
	}
	return made[0]
}

func TestP44Turned(t *testing.T) {
	for _, c := range [][2]string{
		{"(ab)", "(ba)"}, {"{a|b}", "{a|b}"}, {"({a|(pb)}*#)", "(#{a|(bp)}*)"}, {"((ab)(pm))", "((mp)(ba))"}, {"a", "a"}, {"()", "()"}, {"(a(b(ph)))", "(((hp)b)a)"}, {"{(ab)|(pm)}?", "{(ba)|(mp)}?"}, {"([+voiced]~[-nasal].)", "(.[-nasal]~[+voiced])"},
	} {
		if p, e := pattern.Turned(parsed(t, sample(), c[0])); e != api.OK || !isSame(p, parsed(t, sample(), c[1])) {
			t.Error(c, p, e)
		}
	}
	for _, p := range someTrees() {
		want := turned(p)
		for _, q := range renumbered(p, 4) {
			if r, e := pattern.Turned(q); !isSame(r, want) || e != api.OK {
				t.Fatal(q, r, e)
			}
		}
	}
	for _, p := range []api.Pattern{flat(api.PatSeq, 256), chain(256), of(rn(-5)), of(cls(9, 9))} {
		if q, e := pattern.Turned(p); !isSame(q, turned(p)) || e != api.OK {
			t.Error(len(q.Nodes), e)
		}
	}
	for what, p := range wrongTrees() {
		q, e := pattern.Turned(p)
		refused(t, what, q, e, api.ErrPattern)
	}
}

func TestP44Same(t *testing.T) {
	l := append(trees(someLeaves(), 1), trees(someLeaves(), 2)...)
	l = append(l, trees([]api.Node{rn('a'), rn('b'), top(api.PatSeq)}, 3)...)
	l = append(l, trees([]api.Node{rn('a')}, 4)...)
	l = append(l, of(rn('z')), of(rn(0)), of(cls(1, 0)), of(cls(0, 1)), of(cls(1, 1)), of(cls(9, 0)))
	for i, p := range l {
		for k, q := range l {
			if pattern.Same(p, q) != (i == k || isSame(p, q)) {
				t.Fatal(p, q)
			}
		}
	}
	for what, p := range wrongTrees() {
		for _, q := range []api.Pattern{p, pattern.Rune('a'), {}} {
			if pattern.Same(p, q) || pattern.Same(q, p) {
				t.Error(what)
			}
		}
	}
}

// TestP44SameNumberings holds all numberings of some trees against one another.
func TestP44SameNumberings(t *testing.T) {
	swapped := of(top(api.PatSeq, 2, 1), rn('b'), rn('a'))
	if ab := parsed(t, sample(), "(ab)"); !pattern.Same(ab, swapped) || pattern.Same(parsed(t, sample(), "(ba)"), swapped) {
		t.Error(swapped)
	}
	l := trees([]api.Node{rn('a'), rn('b')}, 5)
	for i, p := range l {
		for _, q := range renumbered(p, 24) {
			if !pattern.Same(p, q) || !pattern.Same(q, p) {
				t.Fatal(p, q)
			}
			for _, k := range []int{i - 1, i + 1} {
				if k >= 0 && k < len(l) && (pattern.Same(q, l[k]) || pattern.Same(l[k], q)) {
					t.Fatal(q, l[k])
				}
			}
		}
	}
}
