package auto

import (
	"cognate/api"
	"cognate/match"
	"cognate/pattern"
)

// leaves are some nodes of a pattern that take a letter: a bit for each.
type leaves [api.MaxNodes / wordBits]uint64

// part is how one node of a pattern is gone through: whether without a letter, and which leaves can be its first and its last ones.
type part struct {
	skips       bool
	first, last leaves
}

// ofPattern is a pattern's machine, whose states are its situations.
func ofPattern(a api.Alphabet, p api.Pattern) (machine, api.Errno) {
	if e := pattern.Check(a, p); e != api.OK {
		return machine{}, e
	}
	like, e := lettersOf(a, p)
	if e != api.OK {
		return machine{}, e
	}
	// An edge lets by ahead of the first letter and behind the last one, between letters it does not.
	outside, _ := parts(p.Nodes, true)
	_, next := parts(p.Nodes, false)
	whole := outside[0]
	// No situation behind letters is without leaves: the empty set stands for the first one.
	first := leaves{}
	behind := func(at leaves) []way[leaves] {
		can := whole.first
		if at != first {
			can = leaves{}
			for _, n := range list(at[:]) {
				join(can[:], next[n][:])
			}
		}
		return byLetters(can, like)
	}
	isEnd := func(at leaves) bool {
		if at == first {
			return whole.skips
		}
		meet(at[:], whole.last[:])
		return at != leaves{}
	}
	return explore(first, behind, isEnd)
}

// byLetters is which of some leaves take each letter, where there are such.
func byLetters(can leaves, like []leaves) []way[leaves] {
	var l []way[leaves]
	for letter, to := range like {
		meet(to[:], can[:])
		if to != (leaves{}) {
			l = append(l, way[leaves]{letter, to})
		}
	}
	return l
}

// lettersOf is the leaves of a pattern that take each letter of the alphabet, in its order.
func lettersOf(a api.Alphabet, p api.Pattern) ([]leaves, api.Errno) {
	like := make([]leaves, len(a.Letters))
	for number, n := range p.Nodes {
		if !isLeaf(n) {
			continue
		}
		for from := 0; from < len(like); from += api.MaxWord {
			// One letter alone is like a leaf: in a word of all letters it lies at each that it takes.
			l, e := match.All(a, api.Pattern{Nodes: []api.Node{n}}, row(a, from))
			if e != api.OK {
				return nil, e
			}
			for _, s := range l {
				put(like[from+s.From][:], number)
			}
		}
	}
	return like, api.OK
}

// row is the letters from a number on as a word: all, or as many as a word has at most.
func row(a api.Alphabet, from int) string {
	var l []rune
	for _, x := range a.Letters[from:min(from+api.MaxWord, len(a.Letters))] {
		l = append(l, x.Rune)
	}
	return string(l)
}

// isLeaf tells whether a node takes a letter.
func isLeaf(n api.Node) bool {
	return n.Kind == api.PatRune || n.Kind == api.PatClass || n.Kind == api.PatAny
}

// parts is how each node is gone through, and which leaves can come next behind each leaf, where an edge lets by or not.
func parts(nodes []api.Node, edge bool) (l []part, next []leaves) {
	l, next = make([]part, len(nodes)), make([]leaves, len(nodes))
	// Kids have greater numbers.
	for number := len(nodes) - 1; number >= 0; number-- {
		n := nodes[number]
		switch n.Kind {
		case api.PatEmpty:
			l[number].skips = true
		case api.PatEdge:
			l[number].skips = edge
		case api.PatSeq:
			l[number] = seq(l, n.Kids, next)
		case api.PatOr:
			l[number] = or(l, n.Kids)
		case api.PatStar:
			l[number] = star(l[n.Kids[0]], next)
		case api.PatOpt:
			l[number] = l[n.Kids[0]]
			l[number].skips = true
		default:
			l[number] = leaf(number)
		}
	}
	return l, next
}

// leaf is how a leaf is gone through.
func leaf(number int) part {
	var p part
	put(p.first[:], number)
	put(p.last[:], number)
	return p
}

// seq is how kids are gone through one behind the other; it adds to what comes next.
func seq(l []part, kids []int, next []leaves) part {
	all := part{skips: true}
	for _, k := range kids {
		follow(next, all.last, l[k].first)
		if all.skips {
			join(all.first[:], l[k].first[:])
		}
		last := l[k].last
		if l[k].skips {
			join(last[:], all.last[:])
		}
		all.last = last
		all.skips = all.skips && l[k].skips
	}
	return all
}

// or is how one of some kids is gone through.
func or(l []part, kids []int) part {
	var all part
	for _, k := range kids {
		join(all.first[:], l[k].first[:])
		join(all.last[:], l[k].last[:])
		all.skips = all.skips || l[k].skips
	}
	return all
}

// star is how a kid is gone through any number of times; it adds to what comes next.
func star(kid part, next []leaves) part {
	follow(next, kid.last, kid.first)
	kid.skips = true
	return kid
}

// follow adds to what comes next behind some leaves.
func follow(next []leaves, last, first leaves) {
	for _, n := range list(last[:]) {
		join(next[n][:], first[:])
	}
}
