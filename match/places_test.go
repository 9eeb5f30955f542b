package match_test

import (
	"regexp"
	"slices"
	"strings"
	"testing"

	"cognate/api"
	"cognate/match"
)

// checkPlaces asks of one pattern in one word what Whole, Ends and Begins tell, at each place.
func checkPlaces(t *testing.T, a api.Alphabet, p api.Pattern, w string) {
	t.Helper()
	want := lying(a, p, w)
	end := len(want) - 1
	if is, e := match.Whole(a, p, w); is != want[0][end] || e != api.OK {
		t.Fatalf("%v in %q: Whole %t, %d", p, w, is, e)
	}
	for at := range want {
		if l, e := match.Ends(a, p, w, at); !slices.Equal(l, want.toFrom(at)) || e != api.OK {
			t.Fatalf("%v in %q: Ends of %d: %v, %d", p, w, at, l, e)
		}
		if l, e := match.Begins(a, p, w, at); !slices.Equal(l, want.fromTo(at)) || e != api.OK {
			t.Fatalf("%v in %q: Begins of %d: %v, %d", p, w, at, l, e)
		}
	}
	for _, at := range []int{-1, end + 1} {
		if l, e := match.Ends(a, p, w, at); len(l) > 0 || e != api.ErrArg {
			t.Fatalf("%v in %q: Ends of %d: %v, %d", p, w, at, l, e)
		}
		if l, e := match.Begins(a, p, w, at); len(l) > 0 || e != api.ErrArg {
			t.Fatalf("%v in %q: Begins of %d: %v, %d", p, w, at, l, e)
		}
	}
}

func TestP51Whole(t *testing.T) {
	for _, c := range []struct {
		p, w string
		want bool
	}{
		{"([+vowel][-vowel]*)", "apt", true}, {"([+vowel][-vowel]*)", "apta", false}, {"~", "", true},
		{"~", "a", false}, {"a", "a", true}, {"a", "", false}, {"a", "aa", false}, {"a", "e", false}, {".", "t", true}, {".", "", false}, {"[]", "p", true}, {"[+vowel]", "p", false}, {"[-vowel]", "p", true},
		{"()", "", true}, {"()", "a", false}, {"{}", "", false}, {"{}", "a", false}, {"({}a)", "a", false}, {"{{}|a}", "a", true}, {"{}*", "", true}, {"{}*", "a", false}, {"{}?", "", true}, {"(a{}?e)", "ae", true},
		{"#", "", true}, {"(##)", "", true}, {"(#a#)", "a", true}, {"(##a##)", "a", true}, {"(a#e)", "ae", false}, {"(a#?e)", "ae", true}, {"(a#*e)", "ae", true}, {"(#a)*", "aa", false}, {"(#a)*", "a", true}, {"(a#)*", "aa", false}, {"{#|a}*", "aa", true}, {"({#|p}a)*", "apapa", true}, {"({#|p}a)*", "apaapa", false},
		{"a*", "", true}, {"a*", "aaaa", true}, {"a*", "aaea", false}, {"~*", "", true}, {"~*", "a", false}, {"{~|a}*", "aaa", true}, {"a**", "aaa", true}, {"a?*", "aaa", true}, {"a*?", "aaa", true}, {"(aa)*", "aaaa", true}, {"(aa)*", "aaa", false}, {"{(aa)|(aaa)}*", "a", false}, {"{(aa)|(aaa)}*", "aaaaaaa", true}, {"(a?a?a?aaa)", "aaa", true}, {"(a?a?a?aaa)", "aaaaaa", true}, {"(a?a?a?aaa)", "aa", false}, {"(a*a)", "aaa", true}, {"(.*p.*)", "aepta", true}, {"(.*p.*)", "aeta", false},
	} {
		if is, e := match.Whole(sample(), parsed(t, sample(), c.p), c.w); is != c.want || e != api.OK {
			t.Errorf("%s, %q: %t, %d", c.p, c.w, is, e)
		}
	}
}

func TestP51EndsAndBegins(t *testing.T) {
	ends, begins := match.Ends, match.Begins
	for i, c := range []struct {
		call func(a api.Alphabet, p api.Pattern, w string, at int) ([]int, api.Errno)
		p, w string
		at   int
		want []int
		e    api.Errno
	}{
		{ends, "([+vowel][-vowel]*)", "apta", 0, []int{1, 2, 3}, api.OK}, {ends, "([+vowel][-vowel]*)", "apta", 1, nil, api.OK}, {ends, "([+vowel][-vowel]*)", "apta", 5, nil, api.ErrArg}, {ends, "([+vowel][-vowel]*)", "apta", -1, nil, api.ErrArg}, {ends, "([+vowel][-vowel]*)", "apta", 4, nil, api.OK},
		{begins, "([+vowel][-vowel]*)", "apta", 3, []int{0}, api.OK}, {begins, "([+vowel][-vowel]*)", "apta", 4, []int{3}, api.OK}, {begins, "~", "ap", 1, []int{1}, api.OK}, {begins, ".*", "apta", 3, []int{0, 1, 2, 3}, api.OK}, {begins, "~", "ap", 3, nil, api.ErrArg}, {begins, "~", "ap", -1, nil, api.ErrArg},
		{ends, "~", "", 0, []int{0}, api.OK}, {ends, "~", "", 1, nil, api.ErrArg}, {begins, "~", "", 0, []int{0}, api.OK}, {begins, "~", "", 1, nil, api.ErrArg}, {ends, "#", "ap", 1, nil, api.OK}, {ends, "#", "ap", 2, []int{2}, api.OK}, {begins, "(#.*)", "apa", 2, []int{0}, api.OK}, {ends, "(aa)*", "aaaaa", 1, []int{1, 3, 5}, api.OK}, {begins, "(.*#)", "apa", 2, nil, api.OK},
	} {
		if l, e := c.call(sample(), parsed(t, sample(), c.p), c.w, c.at); !slices.Equal(l, c.want) || e != c.e {
			t.Error(i, l, e)
		}
	}
}

func TestP51AllSmall(t *testing.T) {
	l := append(words(sample(), 1, 4), "p", "ap", "pa", "tp", "aap", "apa", "paa", "apat")
	for _, s := range smallTexts() {
		p := parsed(t, sample(), s)
		for _, w := range l {
			checkPlaces(t, sample(), p, w)
		}
	}
}

func TestP51Drawn(t *testing.T) {
	drawn(1500, func(a api.Alphabet, p api.Pattern, w string) { checkPlaces(t, a, p, w) })
}

// TestP51Longest asks of words around MaxWord letters: places are of letters, not of bytes.
func TestP51Longest(t *testing.T) {
	for _, a := range []api.Alphabet{mixed(), wide()} {
		x := string(a.Letters[0].Rune)
		for n := api.MaxWord - 1; n <= api.MaxWord; n++ {
			for _, s := range []string{".*", "(..)*", "(#" + strings.Repeat(x, n) + "#)", x + "?", "#", "(" + strings.Repeat(".", 63) + ".?)", "(" + strings.Repeat(x+"?", 65) + ")", "{#|(" + strings.Repeat("[]", 64) + ")}"} {
				checkPlaces(t, a, parsed(t, a, s), strings.Repeat(x, n))
			}
		}
		for _, s := range []string{".*", "(..)*", "{}"} {
			if is, e := match.Whole(a, parsed(t, a, s), strings.Repeat(x, api.MaxWord+1)); is || e != api.ErrMany {
				t.Error(s, is, e)
			}
		}
	}
}

// TestP51MostNodes hands in patterns of MaxNodes nodes, some with very many ways to lie.
func TestP51MostNodes(t *testing.T) {
	long := strings.Repeat("a", api.MaxWord)
	for _, s := range []string{
		"a" + strings.Repeat("*", 255), "a" + strings.Repeat("?", 255), strings.Repeat("(", 255) + "a" + strings.Repeat(")", 255), strings.Repeat("{", 255) + "#" + strings.Repeat("}", 255),
		"(" + strings.Repeat("a?", 127) + ")*", "(" + strings.Repeat("a*", 127) + ")*", "(" + strings.Repeat("a?", 127) + "p)", "{" + strings.Repeat("a|", 254) + "[+vowel]}", "{" + strings.Repeat("[-vowel]|", 253) + ".}*", "(" + strings.Repeat("[+vowel]", 64) + strings.Repeat("~", 191) + ")",
	} {
		p := parsed(t, sample(), s)
		if len(p.Nodes) < api.MaxNodes-1 {
			t.Fatal(s, len(p.Nodes))
		}
		checkPlaces(t, sample(), p, long[:7])
		if want := lying(sample(), p, long); fine[bool](t)(match.Whole(sample(), p, long)) != want[0][len(long)] {
			t.Error(s)
		}
	}
}

// TestP51ByAnotherOne asks what the library's expressions say of the same patterns.
func TestP51ByAnotherOne(t *testing.T) {
	signs := strings.NewReplacer("[+vowel]", "[ae]", "[-vowel]", "[pt]", "()", "(?:)", "{}", "[^\\x00-\\x{10ffff}]", "(", "(?:", "{", "(?:", "}", ")", "~", "(?:)", "#", "(?:^|$)", "*", "{0,}", "?", "{0,1}")
	l := words(sample(), 3, 3)
	for _, s := range smallTexts() {
		if strings.Contains(s, "*?") || strings.Contains(s, "**") || strings.Contains(s, "??") || strings.Contains(s, "?*") {
			continue
		}
		p := parsed(t, sample(), s)
		whole, first := regexp.MustCompile("^(?:"+signs.Replace(s)+")$"), regexp.MustCompile(signs.Replace(s))
		first.Longest()
		for _, w := range l {
			if is, e := match.Whole(sample(), p, w); is != whole.MatchString(w) || e != api.OK {
				t.Fatalf("%s, %q: %t, %d", s, w, is, e)
			}
			span, is, e := match.First(sample(), p, w)
			at := first.FindStringIndex(w)
			if is != (at != nil) || is && (span.From != at[0] || span.To != at[1]) || e != api.OK {
				t.Fatalf("%s, %q: %v, %t, %d, want %v", s, w, span, is, e, at)
			}
		}
	}
}
