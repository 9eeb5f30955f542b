package match_test

import (
	"math"
	"slices"
	"strings"
	"testing"

	"cognate/api"
	"cognate/match"
)

// checkSpans asks of one pattern in one word what First and All tell.
func checkSpans(t *testing.T, a api.Alphabet, p api.Pattern, w string) {
	t.Helper()
	want := lying(a, p, w)
	if got := first(t, a, p, w); got != want.first() {
		t.Fatalf("%v in %q: First %v, want %v", p, w, got, want.first())
	}
	if l, e := match.All(a, p, w); !slices.Equal(l, want.all()) || e != api.OK {
		t.Fatalf("%v in %q: All %v, %d, want %v", p, w, l, e, want.all())
	}
}

func TestP52Spans(t *testing.T) {
	for _, c := range []struct {
		p, w string
		want []api.Span
	}{
		{"([+vowel][-vowel]*)", "ptapta", spans(2, 5, 5, 6)}, {"[-vowel]*", "pat", spans(0, 1, 1, 1, 2, 3, 3, 3)}, {"~", "ap", spans(0, 0, 1, 1, 2, 2)}, {"(#[+vowel])", "aa", spans(0, 1)}, {"{}", "ap", nil},
		{"~", "", spans(0, 0)}, {"a", "", nil}, {"#", "", spans(0, 0)}, {"#", "apa", spans(0, 0, 3, 3)}, {"{}", "", nil}, {".", "ap", spans(0, 1, 1, 2)}, {".*", "apa", spans(0, 3, 3, 3)}, {"(..)", "apate", spans(0, 2, 2, 4)}, {"(..)*", "apate", spans(0, 4, 4, 4, 5, 5)}, {"a?", "apa", spans(0, 1, 1, 1, 2, 3, 3, 3)}, {"(aa)", "aaaaa", spans(0, 2, 2, 4)}, {"(aa)", "paaa", spans(1, 3)}, {"p", "aap", spans(2, 3)}, {"(a#)", "aa", spans(1, 2)}, {"(p#?)", "app", spans(1, 2, 2, 3)},
		{"{a|(ap)|(aptt)}", "apta", spans(0, 2, 3, 4)}, {"{(aptt)|(ap)|a}", "apta", spans(0, 2, 3, 4)}, {"{~|(pa)}", "apat", spans(0, 0, 1, 3, 3, 3, 4, 4)}, {"{#|(ap)}", "apap", spans(0, 2, 2, 4, 4, 4)}, {"(e.*)", "apet", spans(2, 4)},
	} {
		p := parsed(t, sample(), c.p)
		if l, e := match.All(sample(), p, c.w); !slices.Equal(l, c.want) || e != api.OK {
			t.Errorf("%s, %q: %v, %d", c.p, c.w, l, e)
		}
		var want found
		if len(c.want) > 0 {
			want = found{c.want[0], true}
		}
		if got := first(t, sample(), p, c.w); got != want {
			t.Errorf("%s, %q: %v", c.p, c.w, got)
		}
	}
}

func TestP52AllSmall(t *testing.T) {
	l := append(words(sample(), 1, 4), "p", "ap", "pa", "tp", "aap", "apa", "paa", "pap", "aapa", "apaa", "ppap", "apatap")
	for _, s := range smallTexts() {
		p := parsed(t, sample(), s)
		for _, w := range l {
			checkSpans(t, sample(), p, w)
		}
	}
}

func TestP52Drawn(t *testing.T) {
	drawn(6000, func(a api.Alphabet, p api.Pattern, w string) { checkSpans(t, a, p, w) })
}

func TestP52Longest(t *testing.T) {
	for _, a := range []api.Alphabet{sample(), mixed(), wide()} {
		x, y := string(a.Letters[0].Rune), string(a.Letters[2].Rune)
		for _, w := range []string{strings.Repeat(x, 64), strings.Repeat(x, 63) + y, strings.Repeat(x, 63), y + strings.Repeat(x, 63), strings.Repeat(x+y, 32)} {
			for _, s := range []string{"~", ".", ".*", "#", "{}", x, y, y + "*", "(" + x + "#)", "(#.)", "(" + y + "#?)", "(...)*", "(" + strings.Repeat(".", 64) + ")"} {
				checkSpans(t, a, parsed(t, a, s), w)
			}
		}
		if l, e := match.All(a, parsed(t, a, "~"), strings.Repeat(x, 64)); len(l) != api.MaxWord+1 || e != api.OK {
			t.Error(l, e)
		}
	}
}

func TestP53Between(t *testing.T) {
	for i, c := range []struct {
		left, right, w string
		from, to       int
		want           bool
		e              api.Errno
	}{
		{"[+vowel]", "[-vowel]", "apa", 1, 1, true, api.OK}, {"[+vowel]", "[-vowel]", "apa", 2, 1, false, api.OK}, {"~", "~", "ap", 3, 0, false, api.ErrArg},
		{"~", "~", "ap", 0, 3, false, api.ErrArg}, {"~", "~", "ap", -1, 0, false, api.ErrArg}, {"~", "~", "ap", 0, -1, false, api.ErrArg}, {"~", "~", "ap", math.MinInt, 0, false, api.ErrArg}, {"~", "~", "ap", 0, math.MaxInt, false, api.ErrArg}, {"{}", "~", "ap", 0, 3, false, api.ErrArg}, {"~", "~", "", 0, 0, true, api.OK}, {"~", "~", "", 0, 1, false, api.ErrArg}, {"~", "~", "ap", 2, 2, true, api.OK},
		{"[+vowel]", "[-vowel]", "apa", 3, 1, true, api.OK}, {"[+vowel]", "[-vowel]", "apa", 1, 2, false, api.OK}, {"[+vowel]", "~", "apa", 0, 0, false, api.OK}, {"~", "[+vowel]", "apa", 0, 3, false, api.OK}, {"#", "#", "apa", 0, 3, true, api.OK}, {"#", "#", "apa", 3, 0, true, api.OK}, {"#", "~", "apa", 1, 1, false, api.OK}, {"~", "#", "apa", 1, 1, false, api.OK}, {"(#a)", "(p#)", "ap", 1, 1, true, api.OK}, {"(#a)", "(a#)", "ap", 1, 1, false, api.OK}, {"(#.*)", "(.*#)", "apata", 2, 3, true, api.OK}, {"(#[+vowel]*)", "(.*#)", "apata", 2, 3, false, api.OK}, {"{}", "~", "a", 0, 0, false, api.OK}, {"~", "{}", "a", 0, 0, false, api.OK}, {"(ta)", "(ap)", "tapa", 2, 1, true, api.OK}, {"(ap)", "(ta)", "tapa", 2, 1, false, api.OK},
	} {
		if is, e := match.Between(sample(), parsed(t, sample(), c.left), parsed(t, sample(), c.right), c.w, c.from, c.to); is != c.want || e != c.e {
			t.Error(i, is, e)
		}
	}
}

// checkBetween asks of two patterns in one word at all pairs of numbers.
func checkBetween(t *testing.T, a api.Alphabet, left, right api.Pattern, w string) {
	t.Helper()
	ahead, behind := lying(a, left, w), lying(a, right, w)
	for from := -1; from <= len(ahead); from++ {
		for to := -1; to <= len(ahead); to++ {
			want, refused := false, api.ErrArg
			if from >= 0 && from < len(ahead) && to >= 0 && to < len(ahead) {
				want, refused = len(ahead.fromTo(from)) > 0 && len(behind.toFrom(to)) > 0, api.OK
			}
			if is, e := match.Between(a, left, right, w, from, to); is != want || e != refused {
				t.Fatalf("%v, %v in %q from %d to %d: %t, %d", left, right, w, from, to, is, e)
			}
		}
	}
}

func TestP53AllSmall(t *testing.T) {
	var l []api.Pattern
	for nodes := 1; nodes <= 3; nodes++ {
		for _, s := range texts([]string{"a", "#"}, nodes) {
			l = append(l, parsed(t, sample(), s))
		}
	}
	for i, left := range l {
		for k, right := range l {
			if w := words(sample(), 3, 3); i%4 == k%4 {
				checkBetween(t, sample(), left, right, w[(i+k)%len(w)])
			}
		}
	}
}

func TestP53Drawn(t *testing.T) {
	d := dice(7)
	drawn(300, func(a api.Alphabet, p api.Pattern, w string) {
		if len(w) < 99 {
			checkBetween(t, a, p, d.pattern(a, 1+d.roll(9)), w)
		}
	})
}

func TestP53Longest(t *testing.T) {
	w := strings.Repeat("ap", api.MaxWord/2)
	any, vowels, edge := parsed(t, sample(), ".*"), parsed(t, sample(), "([+vowel][-vowel])"), parsed(t, sample(), "(.#)")
	checkBetween(t, sample(), vowels, edge, w)
	checkBetween(t, sample(), any, vowels, w)
	checkBetween(t, sample(), edge, any, w)
}
