package pattern_test

import (
	"math"
	"testing"

	"cognate/api"
	"cognate/pattern"
)

// checkIs asks of a pattern whether it may be, and of the calls without an alphabet whether it is a tree.
func checkIs(t *testing.T, what any, p api.Pattern, e api.Errno) {
	t.Helper()
	if got := pattern.Check(sample(), p); got != e {
		t.Errorf("%v: Check %d, want %d", what, got, e)
	}
	tree := isTree(p)
	if pattern.Same(p, p) != tree {
		t.Errorf("%v: Same %t", what, !tree)
	}
	if _, e := pattern.Turned(p); (e == api.OK) != tree || !tree && e != api.ErrPattern {
		t.Errorf("%v: Turned %d", what, e)
	}
}

func TestP41Trees(t *testing.T) {
	for _, p := range someTrees() {
		checkIs(t, p, p, api.OK)
		for _, q := range renumbered(p, 6) {
			checkIs(t, q, q, api.OK)
		}
	}
	for nodes := 1; nodes <= api.MaxNodes; nodes++ {
		checkIs(t, nodes, flat(api.PatSeq, nodes), api.OK)
		checkIs(t, nodes, flat(api.PatOr, nodes), api.OK)
		checkIs(t, nodes, chain(nodes), api.OK)
	}
}

func TestP41NoTrees(t *testing.T) {
	for what, p := range wrongTrees() {
		if isTree(p) {
			t.Error(what, "is a tree")
		}
		checkIs(t, what, p, api.ErrPattern)
	}
}

// TestP41AllOfThree asks of all patterns of up to three nodes with these kinds and kids.
func TestP41AllOfThree(t *testing.T) {
	var l []api.Node
	for _, kind := range []uint8{api.PatAny, api.PatSeq, api.PatOr, api.PatStar, api.PatOpt} {
		for _, kids := range [][]int{nil, {0}, {1}, {2}, {3}, {1, 1}, {1, 2}, {2, 1}, {2, 2}} {
			l = append(l, top(kind, kids...))
		}
	}
	ask := func(p api.Pattern) {
		want := api.ErrPattern
		if isTree(p) {
			want = api.OK
		}
		if e := pattern.Check(bare(), p); e != want || pattern.Same(p, p) != (e == api.OK) {
			t.Fatal(p, e)
		}
	}
	for _, n := range l {
		ask(of(n))
		for _, m := range l {
			ask(of(n, m))
			for _, o := range l {
				ask(of(n, m, o))
			}
		}
	}
}

// TestP41Fields asks of all kinds with all fields: which are no trees, which are none of the alphabet's.
func TestP41Fields(t *testing.T) {
	for _, n := range fieldNodes() {
		want := api.ErrPattern
		switch n.Kind {
		case api.PatEmpty, api.PatAny, api.PatEdge, api.PatSeq, api.PatOr:
			if n.Rune == 0 && n.Plus == 0 && n.Minus == 0 {
				want = api.OK
			}
		case api.PatRune:
			if n.Rune == 'a' && n.Plus == 0 && n.Minus == 0 {
				want = api.OK
			}
		case api.PatClass:
			if n.Rune == 0 && n.Plus < 8 && n.Minus < 8 && n.Plus&n.Minus == 0 {
				want = api.OK
			}
		}
		checkIs(t, n, of(n), want)
		checkIs(t, n, of(top(api.PatOr, 1, 2), rn('b'), n), want)
		if n.Kind == api.PatStar || n.Kind == api.PatOpt {
			if n.Rune == 0 && n.Plus == 0 && n.Minus == 0 {
				want = api.OK
			}
			n.Kids = []int{1}
			checkIs(t, n, of(n, rn('a')), want)
		}
	}
}

func TestP41Letters(t *testing.T) {
	for _, a := range []api.Alphabet{sample(), bare(), wide()} {
		letters := map[rune]int{}
		for i, x := range a.Letters {
			letters[x.Rune] = i + 1
		}
		ask := func(r rune) {
			want := api.ErrPattern
			if letters[r] > 0 {
				want = api.OK
			}
			if e := pattern.Check(a, pattern.Rune(r)); e != want {
				t.Fatalf("%x: %d", r, e)
			}
		}
		for r := rune(-300); r < 0x4000; r++ {
			ask(r)
		}
		for r := rune(0x10f000); r < 0x110100; r++ {
			ask(r)
		}
		for _, r := range []rune{api.Broken, 0xd800, math.MinInt32, math.MaxInt32} {
			ask(r)
		}
	}
}

func TestP41Classes(t *testing.T) {
	for plus := range uint32(20) {
		for minus := range uint32(20) {
			want, none := api.ErrPattern, api.ErrPattern
			if plus < 8 && minus < 8 && plus&minus == 0 {
				want = api.OK
			}
			if plus == 0 && minus == 0 {
				none = api.OK
			}
			if e := pattern.Check(sample(), pattern.Class(plus, minus)); e != want {
				t.Error(plus, minus, e)
			}
			if e := pattern.Check(bare(), pattern.Class(plus, minus)); e != none {
				t.Error(plus, minus, e)
			}
		}
	}
	const all = 1<<api.MaxFeatures - 1
	for _, c := range []struct {
		plus, minus uint32
		e           api.Errno
	}{{all, 0, api.OK}, {0, all, api.OK}, {all &^ 9, 9, api.OK}, {all + 1, 0, api.ErrPattern}, {0, all + 1, api.ErrPattern}, {all, 1, api.ErrPattern}} {
		if e := pattern.Check(wide(), pattern.Class(c.plus, c.minus)); e != c.e {
			t.Error(c, e)
		}
	}
}

// TestP41LastNode has what is wrong in the last of very many nodes.
func TestP41LastNode(t *testing.T) {
	for _, c := range []struct {
		n api.Node
		e api.Errno
	}{{rn('a'), api.OK}, {rn('z'), api.ErrPattern}, {cls(7, 0), api.OK}, {cls(8, 0), api.ErrPattern}, {cls(2, 2), api.ErrPattern}, {leaf(0), api.ErrPattern}, {leaf(api.PatStar), api.ErrPattern}} {
		for _, p := range []api.Pattern{flat(api.PatSeq, api.MaxNodes), chain(api.MaxNodes)} {
			p.Nodes[api.MaxNodes-1] = c.n
			checkIs(t, c.n, p, c.e)
		}
	}
}

// TestP41AlphabetFirst hands in other faults, too: that of the alphabet is ahead of all.
func TestP41AlphabetFirst(t *testing.T) {
	long := string(make([]byte, api.MaxText+1))
	for i, a := range wrongAlphabets() {
		for _, p := range []api.Pattern{pattern.Empty(), {}, of(rn('z')), of(cls(8, 0)), flat(api.PatOr, 300)} {
			if e := pattern.Check(a, p); e != api.ErrAlphabet {
				t.Error(i, "Check:", e)
			}
			if s, e := pattern.Text(a, p); s != "" || e != api.ErrAlphabet {
				t.Error(i, "Text:", s, e)
			}
		}
		for _, s := range []string{"a", "", "x", long, "(a"} {
			p, at, e := pattern.Parse(a, s)
			refused(t, i, p, e, api.ErrAlphabet)
			if at != 0 {
				t.Error(i, "Parse:", at)
			}
		}
	}
}
