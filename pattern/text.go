package pattern

import (
	"strings"

	"cognate/api"
	"cognate/feature"
)

// marks are what stands ahead of a node's kids in its text, between each two, and behind them.
type marks struct{ ahead, between, behind string }

// Text writes a pattern's one text.
func Text(a api.Alphabet, p api.Pattern) (string, api.Errno) {
	if e := Check(a, p); e != api.OK {
		return "", e
	}
	s := textOf(a, p)
	if len(s) > api.MaxText {
		return "", api.ErrText
	}
	return s, api.OK
}

// textOf is the text of a pattern that may be, however long.
func textOf(a api.Alphabet, p api.Pattern) string {
	var out strings.Builder
	var put func(number int)
	put = func(number int) {
		n := p.Nodes[number]
		m := marksOf(a, n)
		out.WriteString(m.ahead)
		for i, k := range n.Kids {
			if i > 0 {
				out.WriteString(m.between)
			}
			put(k)
		}
		out.WriteString(m.behind)
	}
	put(0)
	return out.String()
}

// marksOf is a node's marks; a node that has no kids shows all of itself ahead of them.
func marksOf(a api.Alphabet, n api.Node) marks {
	switch n.Kind {
	case api.PatRune:
		return marks{ahead: string(n.Rune)}
	case api.PatClass:
		// The class may be, so it has a text.
		s, _ := feature.Text(a, n.Plus, n.Minus)
		return marks{ahead: "[" + s + "]"}
	case api.PatAny:
		return marks{ahead: "."}
	case api.PatEdge:
		return marks{ahead: "#"}
	case api.PatSeq:
		return marks{ahead: "(", behind: ")"}
	case api.PatOr:
		return marks{"{", "|", "}"}
	case api.PatStar:
		return marks{behind: "*"}
	case api.PatOpt:
		return marks{behind: "?"}
	}
	return marks{ahead: "~"}
}
