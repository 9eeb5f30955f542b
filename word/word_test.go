package word_test

import (
	"math"
	"slices"
	"strings"
	"testing"

	"cognate/api"
	"cognate/word"
)

// checkLetters asks Check and Letters of one text.
func checkLetters(t *testing.T, a api.Alphabet, w string) {
	t.Helper()
	want, refused := lettersOf(a, w)
	if e := word.Check(a, w); e != refused {
		t.Fatalf("%.300q: Check: %d, want %d", w, e, refused)
	}
	if l, e := word.Letters(a, w); !slices.Equal(l, want) || e != refused {
		t.Fatalf("%.300q: Letters: %q, %d", w, string(l), e)
	}
}

func TestP31Check(t *testing.T) {
	long := strings.Repeat("a", api.MaxWord)
	for w, want := range map[string]api.Errno{
		"abc": api.OK, "abd": api.ErrLetter, "ab\xff": api.ErrWord, long + "a": api.ErrMany,
		"": api.OK, "a": api.OK, "cccba": api.OK, long: api.OK, long[1:] + "c": api.OK,
	} {
		if e := word.Check(sample(), w); e != want {
			t.Errorf("%q: %d", w, e)
		}
	}
	for w, want := range wrongWords() {
		if e := word.Check(sample(), w); e != want {
			t.Errorf("%.20q: %d", w, e)
		}
	}
}

func TestP31EveryText(t *testing.T) {
	ask := func(s string) { checkLetters(t, sample(), s) }
	everyText([]string{"a", "c", "d", "\u00e9", "\ufffd", "\xff", "\xc3", "\xa9", "\xe4", "\xb8", "\x80"}, 4, ask)
	ask = func(s string) { checkLetters(t, mixed(), s) }
	everyText([]string{"z", "\xc3", "\xa9", "\xe4", "\xb8", "\x80", "\xf0", "\x90", "\x8c", "\xb0"}, 5, ask)
}

func TestP31EveryRune(t *testing.T) {
	for _, a := range alphabets() {
		for r := rune(0); r <= 0x10ffff; r += 1 + r/0x3000 {
			checkLetters(t, a, string(r))
		}
		for _, x := range a.Letters {
			checkLetters(t, a, string([]rune{x.Rune, x.Rune - 1, x.Rune}))
			checkLetters(t, a, string(x.Rune))
		}
	}
}

// TestP31Longest asks of words around MaxWord letters, of one to four bytes each, with all kinds of ends.
func TestP31Longest(t *testing.T) {
	for _, a := range alphabets() {
		for _, x := range a.Letters {
			for n := api.MaxWord - 2; n < api.MaxWord+3; n++ {
				w := strings.Repeat(string(x.Rune), n)
				for _, end := range []string{"", "\xff", "!", "\ufffd", "\xf0\x90\x8c", string(a.Letters[0].Rune)} {
					checkLetters(t, a, w+end)
					checkLetters(t, a, w+end+w)
				}
			}
		}
	}
}

// TestP31WhateverBytes hands in mixtures of all kinds: each call ends, and tells the word's error.
func TestP31WhateverBytes(t *testing.T) {
	state := uint32(1)
	parts := []string{"z", "\u00e9", "a", "\U00010330", "Z", "\u4e00", "aZ\u00e9z", "za\u4e00", "\xff", "\xc3", "b"}
	for range 3000 {
		var s strings.Builder
		for range 40 {
			state = state*1664525 + 1013904223
			pick := int(state >> 12 % 200)
			if pick >= len(parts) {
				pick %= 8
			}
			s.WriteString(parts[pick])
		}
		checkLetters(t, mixed(), s.String())
	}
}

func TestP31Text(t *testing.T) {
	full := slices.Repeat([]rune("c"), api.MaxForm)
	for i, c := range []struct {
		l    []rune
		want string
		e    api.Errno
	}{
		{[]rune("cab"), "cab", api.OK}, {nil, "", api.OK}, {[]rune{}, "", api.OK}, {[]rune("aaaa"), "aaaa", api.OK},
		{[]rune("cad"), "", api.ErrLetter}, {[]rune("dca"), "", api.ErrLetter}, {[]rune{'a', 0xfffd}, "", api.ErrLetter}, {[]rune{'a', -1}, "", api.ErrLetter}, {[]rune{0, 'a'}, "", api.ErrLetter}, {[]rune{'a', 0xd800, 'b'}, "", api.ErrLetter}, {[]rune{0x110000}, "", api.ErrLetter}, {[]rune{'a' + 256}, "", api.ErrLetter},
		{full[:api.MaxWord+1], strings.Repeat("c", api.MaxWord+1), api.OK}, {full, strings.Repeat("c", api.MaxForm), api.OK}, {append(full[1:len(full):len(full)], 'd'), "", api.ErrLetter},
		{append(full[:len(full):len(full)], 'c'), "", api.ErrMany}, {make([]rune, api.MaxForm+1), "", api.ErrMany}, {make([]rune, api.MaxForm), "", api.ErrLetter},
	} {
		if s, e := word.Text(sample(), c.l); s != c.want || e != c.e {
			t.Errorf("%d: %q, %d", i, s, e)
		}
	}
	for _, a := range alphabets() {
		last := a.Letters[len(a.Letters)-1].Rune
		if s, e := word.Text(a, slices.Repeat([]rune{last}, api.MaxForm)); s != strings.Repeat(string(last), api.MaxForm) || e != api.OK {
			t.Errorf("%q, %d", s, e)
		}
	}
}

func TestP33Part(t *testing.T) {
	for i, c := range []struct {
		w        string
		from, to int
		want     string
		e        api.Errno
	}{
		{"abc", 1, 2, "b", api.OK}, {"abc", 2, 1, "", api.ErrArg}, {"", 0, 0, "", api.OK}, {"abc", 0, 3, "abc", api.OK}, {"abc", 3, 3, "", api.OK},
		{"abc", 0, 4, "", api.ErrArg}, {"abc", -1, 2, "", api.ErrArg}, {"abc", 4, 4, "", api.ErrArg}, {"", 0, 1, "", api.ErrArg}, {"", -1, 0, "", api.ErrArg}, {"", -1, -1, "", api.ErrArg},
		{"abc", math.MinInt, math.MaxInt, "", api.ErrArg}, {"abc", math.MinInt, 1, "", api.ErrArg}, {"abc", 0, math.MaxInt, "", api.ErrArg}, {"abc", math.MaxInt, math.MaxInt, "", api.ErrArg}, {"abc", math.MaxInt, math.MinInt, "", api.ErrArg},
		{"abd", 0, 9, "", api.ErrLetter}, {"abd", 0, 1, "", api.ErrLetter}, {"a\xff", 2, 1, "", api.ErrWord}, {strings.Repeat("a", api.MaxWord+1), 0, api.MaxWord + 1, "", api.ErrMany},
	} {
		if s, e := word.Part(sample(), c.w, c.from, c.to); s != c.want || e != c.e {
			t.Errorf("%d: %q, %d", i, s, e)
		}
	}
}

func TestP33PartOfAll(t *testing.T) {
	for _, a := range alphabets() {
		for _, w := range someWords(a) {
			l := []rune(w)
			for from := -1; from <= len(l)+1; from++ {
				for to := -1; to <= len(l)+1; to++ {
					want, refused := "", api.ErrArg
					if from >= 0 && from <= to && to <= len(l) {
						want, refused = string(l[from:to]), api.OK
					}
					if s, e := word.Part(a, w, from, to); s != want || e != refused {
						t.Fatalf("%q from %d to %d: %q, %d", w, from, to, s, e)
					}
				}
			}
		}
	}
}

func TestP33Join(t *testing.T) {
	long := strings.Repeat("abcc", api.MaxWord/4)
	many := slices.Repeat([]string{"a"}, api.MaxForm)
	for i, c := range []struct {
		l    []string
		want string
		e    api.Errno
	}{
		{[]string{"ab", "c"}, "abc", api.OK}, {nil, "", api.OK}, {[]string{}, "", api.OK}, {[]string{""}, "", api.OK}, {[]string{"", "b", "", "a", ""}, "ba", api.OK}, {[]string{"cab"}, "cab", api.OK}, {[]string{"a", "a"}, "aa", api.OK},
		{[]string{long, long, long, long}, strings.Repeat(long, 4), api.OK}, {[]string{long, long, long, long, ""}, strings.Repeat(long, 4), api.OK}, {[]string{long, long, long, long, "a"}, "", api.ErrCap}, {[]string{long[1:], long, long, long, "a"}, long[1:] + long + long + long + "a", api.OK}, {[]string{long[1:], long, long, long, "ab"}, "", api.ErrCap},
		{many, strings.Repeat("a", api.MaxForm), api.OK}, {append(many[:len(many):len(many)], "b"), "", api.ErrCap}, {slices.Repeat([]string{"b"}, api.MaxEntries), "", api.ErrCap}, {slices.Repeat([]string{long}, api.MaxEntries), "", api.ErrCap},
		{append(many[:len(many):len(many)], "b", "d"), "", api.ErrLetter}, {[]string{long, long, long, long, long, "\xff", "d"}, "", api.ErrWord}, {[]string{long + "a", "d"}, "", api.ErrMany}, {slices.Repeat([]string{"d"}, api.MaxEntries+1), "", api.ErrMany},
	} {
		if s, e := word.Join(sample(), c.l); s != c.want || e != c.e {
			t.Errorf("%d: %q, %d", i, s, e)
		}
	}
}

// TestP33JoinCounts: letters are counted, not their bytes, and bytes of two words make no letter together.
func TestP33JoinCounts(t *testing.T) {
	gothic := strings.Repeat("\U00010330", api.MaxWord)
	l := []string{gothic, gothic, gothic, gothic}
	if s, e := word.Join(mixed(), l); s != strings.Repeat(gothic, 4) || e != api.OK {
		t.Errorf("%q, %d", s, e)
	}
	if s, e := word.Join(mixed(), append(l, "z")); s != "" || e != api.ErrCap {
		t.Errorf("%q, %d", s, e)
	}
	if s, e := word.Join(mixed(), []string{"z\xc3", "\xa9"}); s != "" || e != api.ErrWord {
		t.Errorf("%q, %d", s, e)
	}
}

func TestP33Turned(t *testing.T) {
	for w, want := range map[string]string{"abc": "cba", "": "", "a": "a", "aab": "baa", "abca": "acba"} {
		if s, e := word.Turned(sample(), w); s != want || e != api.OK {
			t.Errorf("%q: %q, %d", w, s, e)
		}
	}
	for _, a := range alphabets() {
		for _, w := range someWords(a) {
			var want string
			for _, r := range w {
				want = string(r) + want
			}
			if s, e := word.Turned(a, w); s != want || e != api.OK {
				t.Fatalf("%q: %q, %d", w, s, e)
			}
		}
	}
}
