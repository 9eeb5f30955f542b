package pattern_test

import (
	"slices"
	"strings"
	"testing"
	"unicode/utf8"

	"cognate/api"
	"cognate/pattern"
)

func TestP42Examples(t *testing.T) {
	for _, c := range []struct {
		s string
		p api.Pattern
	}{
		{"([+voiced]a*#)", of(top(api.PatSeq, 1, 2, 4), cls(1, 0), top(api.PatStar, 3), rn('a'), leaf(api.PatEdge))},
		{"{a|(pb)|~}?", of(top(api.PatOpt, 1), top(api.PatOr, 2, 3, 6), rn('a'), top(api.PatSeq, 4, 5), rn('p'), rn('b'), leaf(api.PatEmpty))},
		{"()", of(leaf(api.PatSeq))}, {"{}", of(leaf(api.PatOr))}, {"[]", of(cls(0, 0))},
		{"a*?", of(top(api.PatOpt, 1), top(api.PatStar, 2), rn('a'))}, {"a?*", of(top(api.PatStar, 1), top(api.PatOpt, 2), rn('a'))},
		{"~", of(leaf(api.PatEmpty))}, {".", of(leaf(api.PatAny))}, {"#", of(leaf(api.PatEdge))}, {"\u00e9", of(rn(0xe9))},
		{"[+voiced-nasal-vowel]**", of(top(api.PatStar, 1), top(api.PatStar, 2), cls(1, 6))},
		{"(a)", of(top(api.PatSeq, 1), rn('a'))}, {"(ab*)", of(top(api.PatSeq, 1, 2), rn('a'), top(api.PatStar, 3), rn('b'))}, {"((ab)*)", of(top(api.PatSeq, 1), top(api.PatStar, 2), top(api.PatSeq, 3, 4), rn('a'), rn('b'))},
		{"{a}", of(top(api.PatOr, 1), rn('a'))}, {"{a|b*}", of(top(api.PatOr, 1, 2), rn('a'), top(api.PatStar, 3), rn('b'))}, {"{{}|()}", of(top(api.PatOr, 1, 2), leaf(api.PatOr), leaf(api.PatSeq))},
		{"()*", of(top(api.PatStar, 1), leaf(api.PatSeq))}, {"~*", of(top(api.PatStar, 1), leaf(api.PatEmpty))}, {"#?", of(top(api.PatOpt, 1), leaf(api.PatEdge))}, {"(#.#)", of(top(api.PatSeq, 1, 2, 3), leaf(api.PatEdge), leaf(api.PatAny), leaf(api.PatEdge))},
	} {
		if p := parsed(t, sample(), c.s); !isSame(p, c.p) {
			t.Errorf("%s: %v", c.s, p)
		}
		if s, e := pattern.Text(sample(), c.p); s != c.s || e != api.OK {
			t.Errorf("%s: %s, %d", c.s, s, e)
		}
	}
}

func TestP42WrongPlaces(t *testing.T) {
	for _, c := range []struct {
		s  string
		at int
	}{
		{"", 0}, {"x", 0}, {"(a", 2}, {"ab", 1}, {"{a", 2}, {"[voiced]", 1}, {"[+nasal", 0},
		{")", 0}, {"}", 0}, {"]", 0}, {"|", 0}, {"*", 0}, {"?", 0}, {" ", 0}, {" a", 0}, {"a ", 1}, {"a\n", 1}, {"\x00", 0}, {"+", 0}, {"A", 0}, {"_", 0}, {"\ufffd", 0}, {"\xff", 0}, {"\u00ea", 0}, {"\xc3", 0}, {"\u00e9\xa9", 2}, {"\u00e9\u00e9", 2},
		{"(", 1}, {"(*)", 1}, {"(?)", 1}, {"(|)", 1}, {"(a|b)", 2}, {"(}", 1}, {"(a}", 2}, {"(])", 1}, {"(a*", 3}, {"()(", 2}, {"())", 2}, {"()()", 2}, {"(()", 3}, {"(x)", 1}, {"(a\xff)", 2}, {"(\u00e9\xff)", 3},
		{"{", 1}, {"{|", 1}, {"{|a}", 1}, {"{*}", 1}, {"{)}", 1}, {"{a|", 3}, {"{a|}", 3}, {"{a|*}", 3}, {"{a||b}", 3}, {"{ab}", 2}, {"{a)", 2}, {"{a*", 3}, {"{a*b}", 3}, {"{}}", 2}, {"{}a", 2}, {"{x}", 1}, {"{a|x}", 3}, {"{a\xff}", 2}, {"{a,b}", 2},
		{"[", 0}, {"[a", 0}, {"([", 1}, {"[+voiced", 0}, {"[+voiced]]", 9}, {"[+voiced][", 9}, {"[a]", 1}, {"[+]", 1}, {"[-]", 1}, {"[+voice]", 1}, {"[+voicedx]", 1}, {"[+Voiced]", 1}, {"[ ]", 1}, {"[+voiced ]", 1}, {"[+nasal+voiced]", 1}, {"[+voiced-voiced]", 1}, {"[+voiced+voiced]", 1}, {"[[]]", 1}, {"[(a)]", 1}, {"[\xff]", 1}, {"[\u00e9]", 1}, {"(a[+x])", 3}, {"(a[\u00e9])", 3}, {"(\u00e9[+x])", 4}, {"(\u00e9[+x)", 3}, {"[][+x]", 2}, {"{[]|[+x]}", 5},
		{"a*b", 2}, {"a?(", 2}, {"a*)", 2}, {"a*?*\xff", 4}, {"~~", 1}, {".#", 1}, {"#a", 1}, {"(a))", 3}, {"{a}|b", 3},
	} {
		p, at, e := pattern.Parse(sample(), c.s)
		refused(t, c.s, p, e, api.ErrPattern)
		if at != c.at {
			t.Errorf("%q: at %d, want %d", c.s, at, c.at)
		}
	}
}

func TestP42TextOfAll(t *testing.T) {
	for _, p := range someTrees() {
		want := written(sample(), p)
		if s, e := pattern.Text(sample(), p); s != want || e != api.OK {
			t.Fatalf("%v: %s, %d", p, s, e)
		}
		if q := parsed(t, sample(), want); !isSame(q, p) {
			t.Fatalf("%s: %v, want %v", want, q, p)
		}
		for _, q := range renumbered(p, 6) {
			if s, e := pattern.Text(sample(), q); s != want || e != api.OK {
				t.Fatalf("%v: %s, %d", q, s, e)
			}
		}
	}
}

// wrongAt is where a text goes wrong at first, by a stack of the brackets that are open; -1: nowhere.
func wrongAt(a api.Alphabet, s string) int {
	open, ready := "", false // ready: a whole node stands ahead
	for at := 0; at < len(s); {
		r, n := utf8.DecodeRuneInString(s[at:])
		inner := strings.LastIndexAny("({", open[max(len(open)-1, 0):]) // 0: within ( ), 1: within { }
		starts := inner == 0 || !ready
		letter := r != 0xfffd && slices.ContainsFunc(a.Letters, func(x api.Letter) bool { return x.Rune == r })
		switch {
		case ready && (r == '*' || r == '?'):
		case starts && (letter || r == '~' || r == '.' || r == '#'):
			ready = true
		case starts && (r == '(' || r == '{'):
			open, ready = open+string(r), false
		case inner == 0 && r == ')', inner == 1 && r == '}' && (ready || s[at-1] == '{'):
			open, ready = open[:len(open)-1], true
		case inner == 1 && ready && r == '|':
			ready = false
		case starts && r == '[':
			long := strings.Index(s[at:], "]")
			if long < 0 {
				return at
			}
			if !isClassText(a, s[at+1:at+long]) {
				return at + 1
			}
			ready, n = true, long+1
		default:
			return at
		}
		at += n
	}
	if open != "" || !ready {
		return len(s)
	}
	return -1
}

// isClassText tells whether some class has that text.
func isClassText(a api.Alphabet, s string) bool {
	for plus := range uint32(1) << len(a.Features) {
		for minus := range uint32(1) << len(a.Features) {
			if plus&minus == 0 && classText(a, plus, minus) == s {
				return true
			}
		}
	}
	return false
}

// everyText hands on every text of at most that many of these parts.
func everyText(parts []string, most int, see func(s string)) {
	see("")
	if most == 0 {
		return
	}
	for _, p := range parts {
		everyText(parts, most-1, func(s string) { see(p + s) })
	}
}

// checkText asks of one text whether it is read, and where it goes wrong; one that is read must be written again.
func checkText(t *testing.T, s string) {
	at := wrongAt(sample(), s)
	p, got, e := pattern.Parse(sample(), s)
	if at >= 0 {
		if len(p.Nodes) > 0 || got != at || e != api.ErrPattern {
			t.Fatalf("%q: %v, %d, %d, want %d", s, p, got, e, at)
		}
		return
	}
	if got != 0 || e != api.OK || !isTree(p) || !isSame(p, inOnes(p)) || written(sample(), p) != s {
		t.Fatalf("%q: %v, %d, %d", s, p, got, e)
	}
	if again, e := pattern.Text(sample(), p); again != s || e != api.OK {
		t.Fatalf("%q: %q, %d", s, again, e)
	}
}

// inOnes is a tree in its one numbering: its nodes are taken from a pile, on which their kids are laid.
func inOnes(p api.Pattern) api.Pattern {
	pile, order := []int{0}, []int{}
	for len(pile) > 0 {
		last := pile[len(pile)-1]
		order = append(order, last)
		kids := slices.Clone(p.Nodes[last].Kids)
		slices.Reverse(kids)
		pile = append(pile[:len(pile)-1], kids...)
	}
	return inOrder(p, order)
}

func TestP42ParseOfAll(t *testing.T) {
	see := func(s string) { checkText(t, s) }
	everyText([]string{"a", "\u00e9", "x", "(", ")", "{", "|", "}", "[", "]", "[]", "[+nasal]", "*", "?", "~", ".", "#", "\xff", "+"}, 4, see)
	everyText([]string{"a", "(", ")", "{", "|", "}", "*"}, 7, see)
	everyText([]string{"[", "]", "+voiced", "-voiced", "+nasal", "-vowel", "+", "\xff", "a"}, 5, see)
}

// TestP42ParseMixtures changes texts of trees by one part.
func TestP42ParseMixtures(t *testing.T) {
	for _, p := range trees(someLeaves(), 3) {
		s := written(sample(), p)
		for at := range len(s) + 1 {
			for _, part := range []string{"", "a", "(", ")", "{", "|", "}", "[", "]", "*", "?", "\xff"} {
				checkText(t, s[:at]+part+s[at:])
				checkText(t, s[:at]+part+s[min(at+1, len(s)):])
			}
		}
	}
}

func TestP42MostNodes(t *testing.T) {
	dots := func(n int) string { return strings.Repeat(".", n) }
	for i, c := range []struct {
		s     string
		nodes int
	}{
		{"(" + dots(255) + ")", 256}, {"(" + dots(256) + ")", 257}, {"{." + strings.Repeat("|.", 254) + "}", 256}, {"{." + strings.Repeat("|.", 255) + "}", 257},
		{"a" + strings.Repeat("*", 255), 256}, {"a" + strings.Repeat("?", 256), 257}, {strings.Repeat("(", 256) + strings.Repeat(")", 256), 256}, {strings.Repeat("{", 257) + strings.Repeat("}", 257), 257},
		{"(" + dots(65534) + ")", 65535}, {"a" + strings.Repeat("*", 65535), 65536}, {strings.Repeat("(", 32768) + strings.Repeat(")", 32768), 32768}, {"(" + strings.Repeat("[]", 32767) + ")", 32768},
	} {
		p, at, e := pattern.Parse(sample(), c.s)
		if c.nodes > api.MaxNodes {
			refused(t, i, p, e, api.ErrMany)
		} else if e != api.OK || len(p.Nodes) != c.nodes || written(sample(), p) != c.s {
			t.Error(i, len(p.Nodes), e)
		}
		if at != 0 {
			t.Error(i, at)
		}
	}
}

// TestP42WrongAheadOfMany has something wrong behind too many nodes: it is told all the same.
func TestP42WrongAheadOfMany(t *testing.T) {
	dots := strings.Repeat(".", 300)
	for _, c := range []struct {
		s  string
		at int
	}{
		{"(" + dots, 301}, {"(" + dots + "x)", 301}, {"(" + dots + ")a", 302}, {"(" + dots + "[+x])", 302}, {"a" + strings.Repeat("*", 300) + "b", 301}, {strings.Repeat("(", 65536), 65536}, {strings.Repeat("{", 65536), 65536}, {strings.Repeat("{a|", 21845), 65535}, {"(" + strings.Repeat("[", 65535), 1}, {"(" + strings.Repeat("a", 65534) + "}", 65535},
	} {
		p, at, e := pattern.Parse(sample(), c.s)
		refused(t, c.at, p, e, api.ErrPattern)
		if at != c.at {
			t.Errorf("%d, want %d", at, c.at)
		}
	}
}

func TestP42LongTexts(t *testing.T) {
	for i, c := range []struct {
		s  string
		at int
		e  api.Errno
	}{
		{strings.Repeat("a", api.MaxText), 1, api.ErrPattern}, {strings.Repeat("a", api.MaxText+1), 0, api.ErrText}, {strings.Repeat("\xff", api.MaxText+1), 0, api.ErrText}, {"(" + strings.Repeat(".", api.MaxText) + ")", 0, api.ErrText}, {strings.Repeat("\xff", 1<<20), 0, api.ErrText},
		{"(" + strings.Repeat("\u00e9", api.MaxText/2-1) + ")", 0, api.ErrMany}, {"(a" + strings.Repeat("\u00e9", api.MaxText/2-1) + "x)", 0, api.ErrText}, {"[" + strings.Repeat("+", api.MaxText-2) + "]", 1, api.ErrPattern}, {"[" + strings.Repeat("+", api.MaxText-1), 0, api.ErrPattern},
	} {
		p, at, e := pattern.Parse(sample(), c.s)
		refused(t, i, p, e, c.e)
		if at != c.at {
			t.Error(i, at)
		}
	}
}

// classes is a Seq of classes with all features of wide, which have 794 bytes each, and then of dots, to that many nodes.
func classes(full, dots int) api.Pattern {
	p := flat(api.PatSeq, 1+full+dots)
	for i := range full {
		p.Nodes[i+1] = cls(1<<api.MaxFeatures-1, 0)
	}
	return p
}

func TestP42LongestText(t *testing.T) {
	const each = 2 + api.MaxFeatures*(api.MaxName+1)
	full := (api.MaxText - 2) / each
	dots := api.MaxText - 2 - full*each
	if full+dots > 2*api.MaxNodes {
		t.Fatal(full, dots)
	}
	// Too many dots to stand by themselves: classes with one feature take their room.
	few := dots / (api.MaxName + 3)
	p := classes(full, few+dots%(api.MaxName+3))
	for i := range few {
		p.Nodes[1+full+i] = cls(0, 1)
	}
	s, e := pattern.Text(wide(), p)
	if len(s) != api.MaxText || e != api.OK || s != written(wide(), p) {
		t.Fatal(len(s), e)
	}
	if q := parsed(t, wide(), s); !isSame(p, q) {
		t.Error("read as another one")
	}
	last := len(p.Nodes)
	p.Nodes[0].Kids = append(p.Nodes[0].Kids, last)
	p.Nodes = append(p.Nodes, leaf(api.PatAny))
	if s, e := pattern.Text(wide(), p); s != "" || e != api.ErrText {
		t.Error(len(s), e)
	}
	if s, e := pattern.Text(wide(), classes(255, 0)); s != "" || e != api.ErrText {
		t.Error(len(s), e)
	}
	p.Nodes[last] = rn('a')
	if s, e := pattern.Text(wide(), p); s != "" || e != api.ErrPattern {
		t.Error(len(s), e)
	}
}

func TestP42TextRefuses(t *testing.T) {
	for what, p := range wrongTrees() {
		if s, e := pattern.Text(sample(), p); s != "" || e != api.ErrPattern {
			t.Error(what, s, e)
		}
	}
	for _, n := range []api.Node{rn('z'), rn(0), cls(8, 0), cls(1, 1)} {
		if s, e := pattern.Text(sample(), of(top(api.PatSeq, 1, 2), rn('a'), n)); s != "" || e != api.ErrPattern {
			t.Error(n, s, e)
		}
	}
}

// TestP42OtherAlphabets reads one text by several alphabets.
func TestP42OtherAlphabets(t *testing.T) {
	for _, c := range []struct {
		a  api.Alphabet
		s  string
		at int
	}{
		{bare(), "(a[]*)", -1}, {bare(), "(ab)", 2}, {bare(), "[+voiced]", 1}, {wide(), "[+" + wide().Features[0] + "]", -1}, {wide(), "(\U0010ffff)", -1}, {wide(), "(\U0010ffffa)", 5}, {wide(), "(\U0010ffff\U0010fffe)", 5}, {wide(), "[-" + wide().Features[1] + "+" + wide().Features[2] + "]?", -1}, {wide(), "[+" + wide().Features[1] + "-" + wide().Features[0] + "]", 1},
	} {
		p, at, e := pattern.Parse(c.a, c.s)
		if c.at >= 0 {
			refused(t, c.s, p, e, api.ErrPattern)
			if at != c.at {
				t.Errorf("%s: %d", c.s, at)
			}
		} else if at != 0 || e != api.OK || written(c.a, p) != c.s {
			t.Errorf("%s: %v, %d, %d", c.s, p, at, e)
		}
	}
}
