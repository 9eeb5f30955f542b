package word_test

import (
	"slices"
	"testing"

	"cognate/api"
	"cognate/feature"
	"cognate/word"
)

// spans is spans by their borders, two by two.
func spans(borders ...int) []api.Span {
	var l []api.Span
	for i := 0; i < len(borders); i += 2 {
		l = append(l, api.Span{From: borders[i], To: borders[i+1]})
	}
	return l
}

func TestP34Examples(t *testing.T) {
	for i, c := range []struct {
		w     string
		peaks []int
		want  []api.Span
	}{
		{"bacab", []int{1, 3}, spans(0, 2, 2, 5)}, {"aa", []int{0, 1}, spans(0, 1, 1, 2)}, {"bc", nil, nil}, {"abcba", []int{0, 4}, spans(0, 3, 3, 5)},
		{"", nil, nil}, {"a", []int{0}, spans(0, 1)}, {"bbca", []int{3}, spans(0, 4)}, {"abcb", []int{0}, spans(0, 4)}, {"aba", []int{0, 2}, spans(0, 1, 1, 3)}, {"abba", []int{0, 3}, spans(0, 2, 2, 4)}, {"cbaabacc", []int{2, 3, 5}, spans(0, 3, 3, 4, 4, 8)},
	} {
		if p, e := word.Peaks(sample(), c.w, 1, 0); !slices.Equal(p, c.peaks) || e != api.OK {
			t.Error(i, "Peaks:", p, e)
		}
		if s, e := word.Syllables(sample(), c.w, 1, 0); !slices.Equal(s, c.want) || e != api.OK {
			t.Error(i, "Syllables:", s, e)
		}
	}
}

func TestP34Classes(t *testing.T) {
	for i, c := range []struct {
		plus, minus uint32
		peaks       []int
		want        []api.Span
		e           api.Errno
	}{
		{0, 1, []int{0, 2}, spans(0, 1, 1, 3), api.OK}, {0, 0, []int{0, 1, 2}, spans(0, 1, 1, 2, 2, 3), api.OK},
		{1, 1, nil, nil, api.ErrFeature}, {2, 0, nil, nil, api.ErrFeature}, {0, 2, nil, nil, api.ErrFeature}, {1 << 31, 0, nil, nil, api.ErrFeature}, {1, 3, nil, nil, api.ErrFeature},
	} {
		if p, e := word.Peaks(sample(), "bac", c.plus, c.minus); !slices.Equal(p, c.peaks) || e != c.e {
			t.Error(i, "Peaks:", p, e)
		}
		if s, e := word.Syllables(sample(), "bac", c.plus, c.minus); !slices.Equal(s, c.want) || e != c.e {
			t.Error(i, "Syllables:", s, e)
		}
		if p, e := word.Peaks(sample(), "", c.plus, c.minus); len(p) > 0 || e != c.e {
			t.Error(i, "Peaks of nothing:", p, e)
		}
		if s, e := word.Syllables(sample(), "", c.plus, c.minus); len(s) > 0 || e != c.e {
			t.Error(i, "Syllables of nothing:", s, e)
		}
	}
}

// classes are classes worth asking of an alphabet.
func classes(a api.Alphabet) [][2]uint32 {
	l := [][2]uint32{{0, 0}}
	for f := range a.Features {
		l = append(l, [2]uint32{1 << f, 0}, [2]uint32{0, 1 << f})
	}
	for _, x := range a.Letters[:min(3, len(a.Letters))] {
		l = append(l, [2]uint32{x.Plus, x.Minus})
	}
	return l
}

// syllablesOf goes letter by letter: behind the first peak a syllable begins at a peak that stands behind a peak, and at what is no peak, but stands ahead of one.
func syllablesOf(isPeak []bool) []api.Span {
	first := slices.Index(isPeak, true)
	if first < 0 {
		return nil
	}
	l := spans(0, len(isPeak))
	for i := first + 1; i < len(isPeak); i++ {
		bare := isPeak[i] && isPeak[i-1]
		ahead := !isPeak[i] && i+1 < len(isPeak) && isPeak[i+1]
		if bare || ahead {
			l[len(l)-1].To = i
			l = append(l, api.Span{From: i, To: len(isPeak)})
		}
	}
	return l
}

func TestP34OfAll(t *testing.T) {
	for _, a := range alphabets() {
		words := append(inRow(a, 2, 8), someWords(a)...)
		for _, class := range classes(a) {
			for _, w := range words {
				var isPeak []bool
				var peaks []int
				for i, r := range []rune(w) {
					is, _ := feature.Has(a, r, class[0], class[1])
					isPeak = append(isPeak, is)
					if is {
						peaks = append(peaks, i)
					}
				}
				if p, e := word.Peaks(a, w, class[0], class[1]); !slices.Equal(p, peaks) || e != api.OK {
					t.Fatalf("%q, %x: %d, %d", w, class, p, e)
				}
				if s, e := word.Syllables(a, w, class[0], class[1]); !slices.Equal(s, syllablesOf(isPeak)) || e != api.OK {
					t.Fatalf("%q, %x: %v, %d", w, class, s, e)
				}
			}
		}
	}
}
