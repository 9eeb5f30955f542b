package pattern_test

import (
	"reflect"
	"slices"
	"strings"
	"testing"

	"cognate/api"
	"cognate/pattern"
)

// sample is the alphabet of the chapters' examples, and a letter of two bytes.
func sample() api.Alphabet {
	return api.Alphabet{
		Features: []string{"voiced", "nasal", "vowel"},
		Letters: []api.Letter{
			{Rune: 'p', Minus: 7}, {Rune: 'b', Plus: 1, Minus: 6}, {Rune: 'm', Plus: 3, Minus: 4}, {Rune: 'a', Plus: 5, Minus: 2}, {Rune: 'h'}, {Rune: 0xe9},
		},
	}
}

// bare has no features, and just one letter.
func bare() api.Alphabet { return api.Alphabet{Letters: []api.Letter{{Rune: 'a'}}} }

// wide has as many features and letters as may be, and the longest names.
func wide() api.Alphabet {
	var a api.Alphabet
	for i := range api.MaxFeatures {
		a.Features = append(a.Features, strings.Repeat("f", api.MaxName-1)+string(rune('a'+i)))
	}
	for i := range api.MaxLetters {
		a.Letters = append(a.Letters, api.Letter{Rune: rune(0x10ffff - 31*i), Plus: uint32(i)})
	}
	return a
}

// wrongAlphabets are some that may not be.
func wrongAlphabets() []api.Alphabet {
	twice, both, beyond, named := sample(), sample(), sample(), sample()
	twice.Letters[2].Rune = 'a'
	both.Letters[0].Plus = 1
	beyond.Letters[1].Minus = 8
	named.Features[0] = ""
	return []api.Alphabet{{}, twice, both, beyond, named}
}

// of is the pattern of these nodes.
func of(l ...api.Node) api.Pattern { return api.Pattern{Nodes: l} }

func rn(r rune) api.Node                   { return api.Node{Kind: api.PatRune, Rune: r} }
func cls(plus, minus uint32) api.Node      { return api.Node{Kind: api.PatClass, Plus: plus, Minus: minus} }
func leaf(kind uint8) api.Node             { return api.Node{Kind: kind} }
func top(kind uint8, kids ...int) api.Node { return api.Node{Kind: kind, Kids: kids} }

// isSame tells whether two patterns have the same nodes by the same numbers.
func isSame(p, q api.Pattern) bool {
	return slices.EqualFunc(p.Nodes, q.Nodes, func(n, m api.Node) bool {
		kids := slices.Equal(n.Kids, m.Kids)
		n.Kids, m.Kids = nil, nil
		return kids && reflect.DeepEqual(n, m)
	})
}

// fine is what a call answered, which must be well.
func fine[T any](t *testing.T) func(x T, e api.Errno) T {
	return func(x T, e api.Errno) T {
		t.Helper()
		if e != api.OK {
			t.Fatal(x, e)
		}
		return x
	}
}

// someLeaves are nodes without kids, one of each kind at least.
func someLeaves() []api.Node {
	return []api.Node{leaf(api.PatEmpty), rn('a'), rn(0xe9), cls(1, 4), cls(0, 0), leaf(api.PatAny), leaf(api.PatEdge), top(api.PatSeq), top(api.PatOr)}
}

// trees are all trees of just that many nodes, in their one numbering, made of these leaves.
func trees(leaves []api.Node, nodes int) []api.Pattern {
	if nodes == 1 {
		var l []api.Pattern
		for _, n := range leaves {
			l = append(l, of(n))
		}
		return l
	}
	var l []api.Pattern
	for _, f := range forests(leaves, nodes-1) {
		for _, kind := range []uint8{api.PatSeq, api.PatOr, api.PatStar, api.PatOpt} {
			if len(f) == 1 || kind == api.PatSeq || kind == api.PatOr {
				l = append(l, joined(kind, f))
			}
		}
	}
	return l
}

// forests are all rows of trees with just that many nodes together.
func forests(leaves []api.Node, nodes int) [][]api.Pattern {
	if nodes == 0 {
		return [][]api.Pattern{nil}
	}
	var l [][]api.Pattern
	for first := 1; first <= nodes; first++ {
		for _, p := range trees(leaves, first) {
			for _, rest := range forests(leaves, nodes-first) {
				l = append(l, append([]api.Pattern{p}, rest...))
			}
		}
	}
	return l
}

// joined is a node of that kind above these trees, in its one numbering if they are in theirs.
func joined(kind uint8, l []api.Pattern) api.Pattern {
	out := of(top(kind))
	for _, p := range l {
		first := len(out.Nodes)
		out.Nodes[0].Kids = append(out.Nodes[0].Kids, first)
		for _, n := range p.Nodes {
			n.Kids = slices.Clone(n.Kids)
			for i := range n.Kids {
				n.Kids[i] += first
			}
			out.Nodes = append(out.Nodes, n)
		}
	}
	return out
}

// someTrees are all small trees.
func someTrees() []api.Pattern {
	var l []api.Pattern
	for nodes := range 4 {
		l = append(l, trees(someLeaves(), nodes+1)...)
	}
	return append(l, trees([]api.Node{rn('a'), cls(2, 1), top(api.PatSeq)}, 5)...)
}

// renumbered are some other numberings of a pattern: each node but the node 0 may stand anywhere behind its parent.
func renumbered(p api.Pattern, most int) []api.Pattern {
	var l []api.Pattern
	var grow func(order []int)
	grow = func(order []int) {
		if len(order) == len(p.Nodes) {
			l = append(l, inOrder(p, order))
			return
		}
		for k := range p.Nodes {
			if len(l) < most && !slices.Contains(order, k) && isBelow(p, order, k) {
				grow(append(order[:len(order):len(order)], k))
			}
		}
	}
	grow([]int{0})
	return l
}

// isBelow tells whether a node is a kid of one of these.
func isBelow(p api.Pattern, l []int, k int) bool {
	return slices.ContainsFunc(l, func(i int) bool { return slices.Contains(p.Nodes[i].Kids, k) })
}

// inOrder is a pattern whose nodes stand in that order.
func inOrder(p api.Pattern, order []int) api.Pattern {
	var q api.Pattern
	for _, i := range order {
		n := p.Nodes[i]
		n.Kids = slices.Clone(n.Kids)
		for j, k := range n.Kids {
			n.Kids[j] = slices.Index(order, k)
		}
		q.Nodes = append(q.Nodes, n)
	}
	return q
}

// isTree is what the chapter says of trees: each node but the node 0 is a kid of one with a lesser number, once.
func isTree(p api.Pattern) bool {
	times := map[int]int{}
	for i, n := range p.Nodes {
		kids := []int{0, 0}
		switch n.Kind {
		case api.PatSeq, api.PatOr:
			kids[1] = 1 << 30
		case api.PatStar, api.PatOpt:
			kids = []int{1, 1}
		}
		fields := (n.Rune == 0 || n.Kind == api.PatRune) && (n.Plus == 0 && n.Minus == 0 || n.Kind == api.PatClass)
		if n.Kind < 1 || n.Kind > 9 || len(n.Kids) < kids[0] || len(n.Kids) > kids[1] || !fields {
			return false
		}
		for _, k := range n.Kids {
			if k <= i {
				return false
			}
			times[k]++
		}
	}
	for k := 1; k < len(p.Nodes); k++ {
		if times[k] != 1 {
			return false
		}
		delete(times, k)
	}
	return len(times) == 0 && len(p.Nodes) >= 1 && len(p.Nodes) <= 256
}

// written is a tree's text, made from its last node to its first one.
func written(a api.Alphabet, p api.Pattern) string {
	texts := make([]string, len(p.Nodes))
	for i := len(p.Nodes) - 1; i >= 0; i-- {
		n := p.Nodes[i]
		var kids []string
		for _, k := range n.Kids {
			kids = append(kids, texts[k])
		}
		switch n.Kind {
		case api.PatEmpty:
			texts[i] = "~"
		case api.PatRune:
			texts[i] = string(n.Rune)
		case api.PatClass:
			texts[i] = "[" + classText(a, n.Plus, n.Minus) + "]"
		case api.PatAny:
			texts[i] = "."
		case api.PatEdge:
			texts[i] = "#"
		case api.PatSeq:
			texts[i] = "(" + strings.Join(kids, "") + ")"
		case api.PatOr:
			texts[i] = "{" + strings.Join(kids, "|") + "}"
		case api.PatStar:
			texts[i] = kids[0] + "*"
		case api.PatOpt:
			texts[i] = kids[0] + "?"
		}
	}
	return texts[0]
}

// classText is a class's text.
func classText(a api.Alphabet, plus, minus uint32) string {
	s := ""
	for f, name := range a.Features {
		if plus>>f&1 == 1 {
			s += "+" + name
		}
		if minus>>f&1 == 1 {
			s += "-" + name
		}
	}
	return s
}

// chain is a letter below as many Stars and Opts as make that many nodes.
func chain(nodes int) api.Pattern {
	var p api.Pattern
	for i := range nodes - 1 {
		p.Nodes = append(p.Nodes, top(api.PatStar+uint8(i%2), i+1))
	}
	p.Nodes = append(p.Nodes, rn('a'))
	return p
}

// flat is a node with as many kids as make that many nodes.
func flat(kind uint8, nodes int) api.Pattern {
	p := of(top(kind))
	for i := range nodes - 1 {
		p.Nodes[0].Kids = append(p.Nodes[0].Kids, i+1)
		p.Nodes = append(p.Nodes, leaf(api.PatAny))
	}
	return p
}

// wrongTrees are patterns that are no trees.
func wrongTrees() map[string]api.Pattern {
	const far = int(^uint(0) >> 1)
	a := rn('a')
	return map[string]api.Pattern{
		"no nodes":              {},
		"an empty list":         of([]api.Node{}...),
		"the kind 0":            of(leaf(0)),
		"the kind 10":           of(leaf(10)),
		"the kind 255":          of(leaf(255)),
		"a kid of the kind 0":   of(top(api.PatSeq, 1), leaf(0)),
		"257 nodes":             flat(api.PatSeq, 257),
		"257 nodes in a chain":  chain(257),
		"a Star without a kid":  of(leaf(api.PatStar)),
		"a Star with two":       of(top(api.PatStar, 1, 2), a, a),
		"an Opt without a kid":  of(leaf(api.PatOpt)),
		"an Opt with two":       of(top(api.PatOpt, 1, 2), a, a),
		"an Empty with a kid":   of(top(api.PatEmpty, 1), a),
		"an Any with a kid":     of(top(api.PatAny, 1), a),
		"an Edge with a kid":    of(top(api.PatEdge, 1), a),
		"a Rune with a kid":     of(api.Node{Kind: api.PatRune, Rune: 'a', Kids: []int{1}}, a),
		"a Class with a kid":    of(api.Node{Kind: api.PatClass, Plus: 1, Kids: []int{1}}, a),
		"a kid that is not":     of(top(api.PatSeq, 1)),
		"a Star's that is not":  of(top(api.PatStar, 2), a),
		"a kid below 0":         of(top(api.PatSeq, -1), a),
		"the least kid":         of(top(api.PatSeq, -far-1), a),
		"the greatest kid":      of(top(api.PatSeq, far), a),
		"the kid 256":           of(append(flat(api.PatSeq, 256).Nodes[:255], top(api.PatOr, 256))...),
		"itself":                of(top(api.PatSeq, 0)),
		"itself, further down":  of(top(api.PatSeq, 1), top(api.PatStar, 1)),
		"the node 0 below":      of(top(api.PatSeq, 1), top(api.PatStar, 0)),
		"a lesser number":       of(top(api.PatSeq, 2), a, top(api.PatStar, 1)),
		"nobody's kid":          of(top(api.PatSeq), a),
		"nobody's kid, between": of(top(api.PatOr, 1, 3), a, a, a),
		"one kid twice":         of(top(api.PatSeq, 1, 1), a),
		"a kid of two":          of(top(api.PatSeq, 1, 2), top(api.PatStar, 2), a),
		"one kid for another":   of(top(api.PatSeq, 1, 1), a, a),
		"very many kids":        of(top(api.PatSeq, slices.Repeat([]int{1}, 1<<20)...), a),
		"all of one kid":        of(top(api.PatOr, slices.Repeat([]int{0}, 1<<20)...), a),
	}
}

// fieldNodes are nodes of each kind with each field, and without.
func fieldNodes() []api.Node {
	var l []api.Node
	for kind := range uint8(12) {
		for _, r := range []rune{0, 'a', 'z', -1, api.Broken, 1 << 30} {
			for _, c := range [][2]uint32{{0, 0}, {1, 0}, {0, 1}, {1, 6}, {7, 0}, {0, 7}, {1, 1}, {3, 2}, {8, 0}, {0, 8}, {1 << 31, 0}, {0, 1 << 31}, {1<<32 - 1, 1<<32 - 1}} {
				l = append(l, api.Node{Kind: kind, Rune: r, Plus: c[0], Minus: c[1]})
			}
		}
	}
	return l
}

// refused asks of a call that it answered just that error.
func refused(t *testing.T, what any, p api.Pattern, e, want api.Errno) {
	t.Helper()
	if len(p.Nodes) > 0 || e != want {
		t.Errorf("%v: %v, %d, want %d", what, p, e, want)
	}
}

// parsed is what Parse reads, which must be well.
func parsed(t *testing.T, a api.Alphabet, s string) api.Pattern {
	t.Helper()
	p, at, e := pattern.Parse(a, s)
	if at != 0 || e != api.OK {
		t.Fatalf("%.99q: %d, %d", s, at, e)
	}
	return p
}
