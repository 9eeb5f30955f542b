package feature_test

import (
	"strings"
	"testing"

	"cognate/api"
	"cognate/feature"
)

func TestP25Text(t *testing.T) {
	for i, c := range []struct {
		plus, minus uint32
		want        string
		e           api.Errno
	}{
		{1, 6, "+voiced-nasal-vowel", api.OK}, {0, 0, "", api.OK}, {4, 1, "-voiced+vowel", api.OK}, {0, 2, "-nasal", api.OK}, {7, 0, "+voiced+nasal+vowel", api.OK},
		{1, 1, "", api.ErrFeature}, {8, 0, "", api.ErrFeature}, {0, 8, "", api.ErrFeature},
	} {
		if s, e := feature.Text(sample(), c.plus, c.minus); s != c.want || e != c.e {
			t.Error(i, s, e)
		}
	}
}

func TestP25TextOfAll(t *testing.T) {
	for i, a := range alphabets() {
		for _, plus := range masksOf(a) {
			for _, minus := range masksOf(a) {
				want, refused := "", api.ErrFeature
				if mayBe(a, plus, minus) {
					refused = api.OK
					for f, name := range a.Features {
						if is := sign(plus, minus, f); is != ' ' {
							want += string(is) + name
						}
					}
				}
				if s, e := feature.Text(a, plus, minus); s != want || e != refused {
					t.Fatalf("%d: %x, %x: %s, %d", i, plus, minus, s, e)
				}
			}
		}
	}
}

func TestP25Parse(t *testing.T) {
	for i, c := range []struct {
		s           string
		plus, minus uint32
		at          int
		e           api.Errno
	}{
		{"-vowel+voiced", 1, 4, 0, api.OK}, {"+voiced-voiced", 0, 0, 7, api.ErrFeature}, {"+voice", 0, 0, 0, api.ErrFeature}, {"voiced", 0, 0, 0, api.ErrFeature}, {"", 0, 0, 0, api.OK},
		{"-voiced-nasal+vowel", 4, 3, 0, api.OK}, {"-nasal", 0, 2, 0, api.OK}, {"+voiced+voiced", 0, 0, 7, api.ErrFeature}, {"-voiced-nasal-voiced", 0, 0, 13, api.ErrFeature},
		{"+", 0, 0, 0, api.ErrFeature}, {"+voiced-", 0, 0, 7, api.ErrFeature}, {"+voiced--nasal", 0, 0, 7, api.ErrFeature}, {"+voiced nasal", 0, 0, 7, api.ErrFeature},
		{" +voiced", 0, 0, 0, api.ErrFeature}, {"+voiced ", 0, 0, 7, api.ErrFeature}, {"+voicedx-nasal", 0, 0, 0, api.ErrFeature}, {"+voicedX", 0, 0, 7, api.ErrFeature}, {"+Voiced", 0, 0, 0, api.ErrFeature},
		{"-nasal\xff", 0, 0, 6, api.ErrFeature}, {"-nasal\u00e9", 0, 0, 6, api.ErrFeature}, {"\u2212nasal", 0, 0, 0, api.ErrFeature}, {"\uff0bnasal", 0, 0, 0, api.ErrFeature}, {"-nas\x00al", 0, 0, 0, api.ErrFeature},
		{"+voiced-nasal+vowel+vowel", 0, 0, 19, api.ErrFeature}, {"+voiced-nasal+vowel\n", 0, 0, 19, api.ErrFeature}, {",nasal", 0, 0, 0, api.ErrFeature}, {"*nasal", 0, 0, 0, api.ErrFeature},
	} {
		if plus, minus, at, e := feature.Parse(sample(), c.s); plus != c.plus || minus != c.minus || at != c.at || e != c.e {
			t.Error(i, plus, minus, at, e)
		}
	}
}

func TestP25ParseLongest(t *testing.T) {
	long := "+" + strings.Repeat("a", api.MaxText-1)
	late := "-nasal" + strings.Repeat("+", api.MaxText-6)
	for i, c := range []struct {
		s  string
		at int
		e  api.Errno
	}{
		{long, 0, api.ErrFeature}, {late, 6, api.ErrFeature}, {late + "+", 0, api.ErrText}, {long + "a", 0, api.ErrText}, {strings.Repeat("\xff", 2*api.MaxText), 0, api.ErrText},
	} {
		if plus, minus, at, e := feature.Parse(sample(), c.s); plus != 0 || minus != 0 || at != c.at || e != c.e {
			t.Error(i, plus, minus, at, e)
		}
	}
	a := wide()
	all, e := feature.Text(a, 1<<24-1, 0)
	if len(all) != api.MaxFeatures*(api.MaxName+1) || e != api.OK {
		t.Error(all, e)
	}
	if plus, minus, at, e := feature.Parse(a, all); plus != 1<<24-1 || minus != 0 || at != 0 || e != api.OK {
		t.Error(plus, minus, at, e)
	}
}

// things are a text's parts, each a byte and the longest run of a to z behind it.
func things(s string) []string {
	var l []string
	for s != "" {
		rest := strings.TrimLeft(s[1:], "abcdefghijklmnopqrstuvwxyz")
		l = append(l, s[:len(s)-len(rest)])
		s = rest
	}
	return l
}

// parsed is what the chapter says that Parse answers.
func parsed(a api.Alphabet, s string) (plus, minus uint32, at int, e api.Errno) {
	known := map[string]int{}
	for f, name := range a.Features {
		known[name] = f + 1
	}
	for _, thing := range things(s) {
		f := known[thing[1:]]
		if f == 0 || sign(plus, minus, f-1) != ' ' || thing[0] != '+' && thing[0] != '-' {
			return 0, 0, at, api.ErrFeature
		}
		if thing[0] == '+' {
			plus += 1 << (f - 1)
		} else {
			minus += 1 << (f - 1)
		}
		at += len(thing)
	}
	return plus, minus, 0, api.OK
}

// written hands on all texts of at most that many of these parts.
func written(parts []string, most int, see func(s string)) {
	var grow func(ahead string, left int)
	grow = func(ahead string, left int) {
		see(ahead)
		if left == 0 {
			return
		}
		for _, p := range parts {
			grow(ahead+p, left-1)
		}
	}
	grow("", most)
}

func TestP25ParseOfAll(t *testing.T) {
	ask := func(a api.Alphabet) func(s string) {
		return func(s string) {
			p, m, at, e := parsed(a, s)
			if plus, minus, place, got := feature.Parse(a, s); plus != p || minus != m || place != at || got != e {
				t.Fatalf("%q: %x, %x, %d, %d", s, plus, minus, place, got)
			}
		}
	}
	written([]string{"+", "-", "voiced", "nasal", "vowel", "v", " ", "\xff", "A", "\u00e9"}, 4, ask(sample()))
	written([]string{"+voiced", "-voiced", "+nasal", "-nasal", "+vowel", "-vowel", "-", "x"}, 5, ask(sample()))
	written([]string{"+", "-", "x", "y", "+xy"}, 6, ask(crowd()))
	written([]string{"+", "-", "q"}, 4, ask(alphabets()[3]))
}
