package pattern

import (
	"slices"

	"cognate/api"
	"cognate/feature"
	"cognate/runes"
)

// noRune is what stands behind a text's last piece.
const noRune = -1

// reader goes over a text piece by piece.
type reader struct {
	a      api.Alphabet
	row    []rune
	s      string
	pieces []api.Piece
	at     int        // the number of the next piece; where something was wrong, of that piece
	nodes  []api.Node // what was read: kids ahead of their parents, since a * stands behind its kid
}

// nodeReader reads the text of one node and tells its number; false: something was wrong.
type nodeReader func() (int, bool)

// Parse reads a pattern's text; beside ErrPattern it tells where the text goes wrong.
func Parse(a api.Alphabet, s string) (api.Pattern, int, api.Errno) {
	row, e := rowOf(a)
	if e != api.OK {
		return api.Pattern{}, 0, e
	}
	pieces, e := runes.Pieces(s)
	if e != api.OK {
		return api.Pattern{}, 0, e
	}
	r := reader{a: a, row: row, s: s, pieces: pieces}
	root, ok := r.whole()
	if !ok {
		return api.Pattern{}, r.place(), api.ErrPattern
	}
	if len(r.nodes) > api.MaxNodes {
		return api.Pattern{}, 0, api.ErrMany
	}
	return numbered(r.nodes, root), 0, api.OK
}

// whole reads all of the text as one node.
func (r *reader) whole() (int, bool) {
	var node nodeReader
	node = func() (int, bool) {
		n, ok := r.bare(node)
		if !ok {
			return 0, false
		}
		return r.repeated(r.keep(n)), true
	}
	root, ok := node()
	return root, ok && r.next() == noRune
}

// bare reads a node without the * and ? behind it; those within it are read by node.
func (r *reader) bare(node nodeReader) (api.Node, bool) {
	switch c := r.next(); c {
	case '(':
		return r.seq(node)
	case '{':
		return r.or(node)
	case '[':
		return r.class()
	case '~':
		return r.taken(api.Node{Kind: api.PatEmpty})
	case '.':
		return r.taken(api.Node{Kind: api.PatAny})
	case '#':
		return r.taken(api.Node{Kind: api.PatEdge})
	default:
		if !slices.Contains(r.row, c) {
			return api.Node{}, false
		}
		return r.taken(api.Node{Kind: api.PatRune, Rune: c})
	}
}

// seq reads from a ( up to its ).
func (r *reader) seq(node nodeReader) (api.Node, bool) {
	n := api.Node{Kind: api.PatSeq}
	r.at++
	for r.next() != ')' {
		k, ok := node()
		if !ok {
			return api.Node{}, false
		}
		n.Kids = append(n.Kids, k)
	}
	return r.taken(n)
}

// or reads from a { up to its }.
func (r *reader) or(node nodeReader) (api.Node, bool) {
	n := api.Node{Kind: api.PatOr}
	r.at++
	if r.next() == '}' {
		return r.taken(n)
	}
	for {
		k, ok := node()
		if !ok {
			return api.Node{}, false
		}
		n.Kids = append(n.Kids, k)
		switch r.next() {
		case '}':
			return r.taken(n)
		case '|':
			r.at++
		default:
			return api.Node{}, false
		}
	}
}

// class reads from a [ up to the first ].
func (r *reader) class() (api.Node, bool) {
	from := r.at + 1
	long := slices.IndexFunc(r.pieces[from:], func(p api.Piece) bool { return p.Rune == ']' })
	if long < 0 {
		return api.Node{}, false
	}
	to := from + long
	r.at = from
	s := r.s[r.pieces[from].At:r.pieces[to].At]
	plus, minus, _, e := feature.Parse(r.a, s)
	if e != api.OK {
		return api.Node{}, false
	}
	// Read in any order, the features are written in one alone.
	if text, e := feature.Text(r.a, plus, minus); e != api.OK || text != s {
		return api.Node{}, false
	}
	r.at = to
	return r.taken(api.Node{Kind: api.PatClass, Plus: plus, Minus: minus})
}

// repeated reads all * and ? behind the node of that number, and tells the outermost one's.
func (r *reader) repeated(number int) int {
	for {
		var kind uint8
		switch r.next() {
		case '*':
			kind = api.PatStar
		case '?':
			kind = api.PatOpt
		default:
			return number
		}
		r.at++
		number = r.keep(api.Node{Kind: kind, Kids: []int{number}})
	}
}

// taken goes on behind the next piece, which is the last one of n's text.
func (r *reader) taken(n api.Node) (api.Node, bool) {
	r.at++
	return n, true
}

// keep keeps a node, and tells its number.
func (r *reader) keep(n api.Node) int {
	r.nodes = append(r.nodes, n)
	return len(r.nodes) - 1
}

// next is the rune of the next piece; that of a broken one is no letter, and no mark.
func (r *reader) next() rune {
	if r.at == len(r.pieces) {
		return noRune
	}
	return r.pieces[r.at].Rune
}

// place is where the next piece begins.
func (r *reader) place() int {
	if r.at == len(r.pieces) {
		return len(r.s)
	}
	return r.pieces[r.at].At
}
