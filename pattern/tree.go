package pattern

import (
	"slices"

	"cognate/api"
)

// isTree tells whether a pattern is a tree, whatever its alphabet.
func isTree(p api.Pattern) bool {
	if len(p.Nodes) < 1 || len(p.Nodes) > api.MaxNodes {
		return false
	}
	var isKid [api.MaxNodes]bool
	kids := 0
	for i, n := range p.Nodes {
		if !isNode(n) {
			return false
		}
		for _, k := range n.Kids {
			if k <= i || k >= len(p.Nodes) || isKid[k] {
				return false
			}
			isKid[k] = true
			kids++
		}
	}
	return kids == len(p.Nodes)-1
}

// isNode tells whether a node has as many kids as its kind asks for, and no field of other kinds.
func isNode(n api.Node) bool {
	if n.Rune != 0 && n.Kind != api.PatRune || n.Plus|n.Minus != 0 && n.Kind != api.PatClass {
		return false
	}
	switch n.Kind {
	case api.PatEmpty, api.PatRune, api.PatClass, api.PatAny, api.PatEdge:
		return len(n.Kids) == 0
	case api.PatStar, api.PatOpt:
		return len(n.Kids) == 1
	case api.PatSeq, api.PatOr:
		return true
	}
	return false
}

// alike tells whether two nodes are the same, kid numbers too.
func alike(n, m api.Node) bool {
	return n.Kind == m.Kind && n.Rune == m.Rune && n.Plus == m.Plus && n.Minus == m.Minus && slices.Equal(n.Kids, m.Kids)
}

// single is the pattern of one node.
func single(n api.Node) api.Pattern { return api.Pattern{Nodes: []api.Node{n}} }

// above is a pattern whose node 0 is of that kind, with these patterns as its kids.
func above(kind uint8, l []api.Pattern) (api.Pattern, api.Errno) {
	if len(l) > api.MaxNodes {
		return api.Pattern{}, api.ErrMany
	}
	nodes := 1
	for _, p := range l {
		if !isTree(p) {
			return api.Pattern{}, api.ErrPattern
		}
		nodes += len(p.Nodes)
	}
	if nodes > api.MaxNodes {
		return api.Pattern{}, api.ErrMany
	}
	out := []api.Node{{Kind: kind}}
	var kids []int
	for _, p := range l {
		kids = append(kids, len(out))
		out = putTree(out, p.Nodes, 0)
	}
	out[0].Kids = kids
	return api.Pattern{Nodes: out}, api.OK
}

// numbered is the tree below a node of l, in its one numbering.
func numbered(l []api.Node, root int) api.Pattern {
	return api.Pattern{Nodes: putTree(nil, l, root)}
}

// putTree puts the tree below a node of l behind out, in its one numbering from there on; its lists are new ones.
func putTree(out, l []api.Node, root int) []api.Node {
	var put func(number int) int
	put = func(number int) int {
		at, n := len(out), l[number]
		var kids []int
		out = append(out, n)
		for _, k := range n.Kids {
			kids = append(kids, put(k))
		}
		out[at].Kids = kids
		return at
	}
	put(root)
	return out
}
