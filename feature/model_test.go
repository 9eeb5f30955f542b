package feature_test

import (
	"strings"

	"cognate/api"
)

// sample is the alphabet A of the chapter's examples.
func sample() api.Alphabet {
	return api.Alphabet{
		Features: []string{"voiced", "nasal", "vowel"},
		Letters: []api.Letter{
			{Rune: 'p', Minus: 7}, {Rune: 'b', Plus: 1, Minus: 6}, {Rune: 'm', Plus: 3, Minus: 4}, {Rune: 'a', Plus: 5, Minus: 2}, {Rune: 'h'},
		},
	}
}

// name is one of the longest names, another one for each number.
func name(number int) string {
	return strings.Repeat("z", api.MaxName-1) + string(rune('a'+number))
}

// wide has as many features and letters as may be; its signs come of a short rule.
func wide() api.Alphabet {
	var a api.Alphabet
	for i := range api.MaxFeatures {
		a.Features = append(a.Features, name(i))
	}
	seed := uint32(7)
	next := func() uint32 {
		seed = seed*1664525 + 1013904223
		return seed >> 8
	}
	for i := range api.MaxLetters {
		plus := next()
		a.Letters = append(a.Letters, api.Letter{Rune: rune(0x3b1 + 131*i), Plus: plus, Minus: next() &^ plus})
	}
	return a
}

// crowd has every letter that three signs of two features can make, some of them twice.
func crowd() api.Alphabet {
	a := api.Alphabet{Features: []string{"x", "xy"}}
	for i := range 12 {
		var x api.Letter
		x.Rune = rune('z' - i)
		for f, sign := range []int{i % 3, i / 3 % 3} {
			x.Plus |= []uint32{0, 1, 0}[sign] << f
			x.Minus |= []uint32{0, 0, 1}[sign] << f
		}
		a.Letters = append(a.Letters, x)
	}
	return a
}

// alphabets are those on which all that follows is asked.
func alphabets() []api.Alphabet {
	return []api.Alphabet{
		sample(), wide(), crowd(),
		{Letters: []api.Letter{{Rune: 'a'}, {Rune: 'A'}, {Rune: 0x10ffff}}},
		{Features: []string{"q"}, Letters: []api.Letter{{Rune: 0xa1, Minus: 1}}},
	}
}

// runesOf is all letters of an alphabet, and runes that are none of most.
func runesOf(a api.Alphabet) []rune {
	l := []rune{-1, 0, '_', 'P', 0xfffd, 0x110000}
	for _, x := range a.Letters {
		l = append(l, x.Rune)
	}
	return l
}

// masksOf is masks worth asking: all of a few features, samples of many, and bits beyond.
func masksOf(a api.Alphabet) []uint32 {
	n := len(a.Features)
	l := []uint32{1 << n, 1 << 31, ^uint32(0), 1<<n - 1}
	if n < 5 {
		for m := range uint32(1) << n {
			l = append(l, m)
		}
		return l
	}
	for i := range n {
		if i%4 == 0 || i == n-1 {
			l = append(l, 1<<i, 5<<i&(1<<n-1))
		}
	}
	return append(l, 0, a.Letters[3].Plus, a.Letters[3].Minus)
}

// sign is +, - or a blank: what a mask of + and one of - say of the feature with that number.
func sign(plus, minus uint32, f int) byte {
	switch {
	case plus>>f%2 == 1:
		return '+'
	case minus>>f%2 == 1:
		return '-'
	}
	return ' '
}

// mayBe is whether a class may be, feature by feature.
func mayBe(a api.Alphabet, plus, minus uint32) bool {
	for f := range 32 {
		p, m := plus>>f%2 == 1, minus>>f%2 == 1
		if p && m || (p || m) && f >= len(a.Features) {
			return false
		}
	}
	return true
}

// classesOf is all classes of these masks that may be.
func classesOf(a api.Alphabet) [][2]uint32 {
	var l [][2]uint32
	for _, plus := range masksOf(a) {
		for _, minus := range masksOf(a) {
			if mayBe(a, plus, minus) {
				l = append(l, [2]uint32{plus, minus})
			}
		}
	}
	return l
}

// letter is the letter of a rune; nil: it is none.
func letter(a api.Alphabet, r rune) *api.Letter {
	for i := range a.Letters {
		if a.Letters[i].Rune == r {
			return &a.Letters[i]
		}
	}
	return nil
}

// hasClass is whether a letter has a class, feature by feature.
func hasClass(a api.Alphabet, x *api.Letter, plus, minus uint32) bool {
	for f := range a.Features {
		if want := sign(plus, minus, f); want != ' ' && want != sign(x.Plus, x.Minus, f) {
			return false
		}
	}
	return true
}

// signsOf is a letter's signs, those of a class put over them.
func signsOf(a api.Alphabet, x *api.Letter, plus, minus uint32) string {
	var s []byte
	for f := range a.Features {
		is := sign(plus, minus, f)
		if is == ' ' {
			is = sign(x.Plus, x.Minus, f)
		}
		s = append(s, is)
	}
	return string(s)
}

// differ is at how many places two texts of one length are unlike.
func differ(s, t string) int {
	n := 0
	for i := range len(s) {
		if s[i] != t[i] {
			n++
		}
	}
	return n
}

// nearest is the letter with the signs that differ least; the first one of several.
func nearest(a api.Alphabet, signs string) rune {
	for n := 0; ; n++ {
		for i := range a.Letters {
			if differ(signs, signsOf(a, &a.Letters[i], 0, 0)) == n {
				return a.Letters[i].Rune
			}
		}
	}
}
