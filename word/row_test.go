package word_test

import (
	"cmp"
	"slices"
	"strings"
	"testing"

	"cognate/api"
	"cognate/word"
)

func TestP32Cmp(t *testing.T) {
	for i, c := range []struct {
		x, y         string
		want, common int
	}{
		{"ab", "b", -1, 0}, {"ab", "a", 1, 1}, {"", "", 0, 0}, {"abc", "abb", 1, 2}, {"", "a", -1, 0}, {"a", "", 1, 0}, {"abc", "abc", 0, 3}, {"c", "abc", 1, 0}, {"acb", "ac", 1, 2}, {"ac", "acb", -1, 2}, {"bbb", "bab", 1, 1}, {"ab", "ac", -1, 1},
	} {
		if n, e := word.Cmp(sample(), c.x, c.y); n != c.want || e != api.OK {
			t.Error(i, "Cmp:", n, e)
		}
		if n, e := word.Common(sample(), c.x, c.y); n != c.common || e != api.OK {
			t.Error(i, "Common:", n, e)
		}
	}
}

func TestP32CmpIsThePlaceInTheRow(t *testing.T) {
	for _, a := range alphabets() {
		row := inRow(a, 4, 3)
		for i, x := range row {
			for k, y := range row {
				if n, e := word.Cmp(a, x, y); n != cmp.Compare(i, k) || e != api.OK {
					t.Fatalf("%q, %q: %d, %d", x, y, n, e)
				}
			}
		}
	}
}

// TestP32CmpByTheOrder: each letter stands where the alphabet has it, whatever its rune is.
func TestP32CmpByTheOrder(t *testing.T) {
	for _, a := range alphabets() {
		for i, x := range a.Letters {
			for k, y := range a.Letters {
				one, other := strings.Repeat(string(x.Rune), api.MaxWord), string(y.Rune)
				want := cmp.Compare(i, k)
				if i == k {
					want = 1
				}
				if n, e := word.Cmp(a, one, other); n != want || e != api.OK {
					t.Fatalf("%q, %q: %d, %d", one, other, n, e)
				}
			}
		}
	}
}

func TestP32Common(t *testing.T) {
	for _, a := range alphabets() {
		for _, x := range someWords(a) {
			for _, y := range someWords(a) {
				l, m := []rune(x), []rune(y)
				want := 0
				for k := 1; k <= min(len(l), len(m)); k++ {
					if string(l[:k]) == string(m[:k]) {
						want = k
					}
				}
				if n, e := word.Common(a, x, y); n != want || e != api.OK {
					t.Fatalf("%q, %q: %d, %d", x, y, n, e)
				}
			}
		}
	}
}

func TestP32Sort(t *testing.T) {
	for i, c := range []struct{ l, want []string }{
		{[]string{"b", "a", "ab", "a"}, []string{"a", "ab", "b"}}, {nil, nil}, {[]string{}, nil}, {[]string{""}, []string{""}}, {[]string{"", "", ""}, []string{""}}, {[]string{"c", "", "b"}, []string{"", "b", "c"}}, {[]string{"abc", "ab", "a", ""}, []string{"", "a", "ab", "abc"}},
	} {
		if l, e := word.Sort(sample(), c.l); !slices.Equal(l, c.want) || e != api.OK {
			t.Errorf("%d: %q, %d", i, l, e)
		}
	}
	a := sample()
	slices.Reverse(a.Letters)
	if l, e := word.Sort(a, []string{"b", "a", "ab", "a", "c", ""}); !slices.Equal(l, []string{"", "c", "b", "a", "ab"}) || e != api.OK {
		t.Errorf("%q, %d", l, e)
	}
}

// shuffled is a list with some of its elements again, out of its order by a short rule.
func shuffled(l []string, seed uint32) []string {
	s := slices.Clone(l)
	for range min(len(l), api.MaxEntries-len(l)) {
		seed = seed*1664525 + 1013904223
		s = append(s, l[int(seed>>8)%len(l)])
	}
	for i := range s {
		seed = seed*1664525 + 1013904223
		k := int(seed>>8) % (i + 1)
		s[i], s[k] = s[k], s[i]
	}
	return s
}

func TestP32SortIsTheRow(t *testing.T) {
	for _, a := range alphabets() {
		for most := range 5 {
			row := inRow(a, 7, most)
			for seed := range uint32(5) {
				if l, e := word.Sort(a, shuffled(row, seed)); !slices.Equal(l, row) || e != api.OK {
					t.Fatalf("%d: %q, %d", most, l, e)
				}
			}
		}
	}
}

// TestP32SortOfTheMost sorts as many words as may be, of as many letters, that begin alike.
func TestP32SortOfTheMost(t *testing.T) {
	a := wide()
	ahead := strings.Repeat(string(a.Letters[127].Rune), api.MaxWord-2)
	var row []string
	for i := range 32 {
		for k := range api.MaxLetters {
			row = append(row, ahead+string(a.Letters[4*i].Rune)+string(a.Letters[k].Rune))
		}
	}
	if l, e := word.Sort(a, shuffled(row, 7)); len(row) != api.MaxEntries || !slices.Equal(l, row) || e != api.OK {
		t.Error(len(l), e)
	}
}
