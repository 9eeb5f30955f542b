package word_test

import (
	"slices"
	"strings"
	"unicode/utf8"

	"cognate/api"
)

// sample is the alphabet A of the chapter's examples.
func sample() api.Alphabet {
	return api.Alphabet{Features: []string{"v"}, Letters: []api.Letter{{Rune: 'a', Plus: 1}, {Rune: 'b', Minus: 1}, {Rune: 'c', Minus: 1}}}
}

// mixed has letters of one to four bytes, in an order that is not that of their runes.
func mixed() api.Alphabet {
	return api.Alphabet{
		Features: []string{"v", "n"},
		Letters: []api.Letter{
			{Rune: 'z', Plus: 1}, {Rune: 0xe9, Plus: 2, Minus: 1}, {Rune: 'a'}, {Rune: 0x10330, Plus: 3}, {Rune: 'Z', Plus: 1, Minus: 2}, {Rune: 0x4e00, Minus: 3},
		},
	}
}

// wide has as many features and letters as may be, those of three bytes between those of four.
func wide() api.Alphabet {
	var a api.Alphabet
	for i := range api.MaxFeatures {
		a.Features = append(a.Features, strings.Repeat("f", 8)+string(rune('a'+i)))
	}
	for i := range api.MaxLetters {
		plus, r := uint32(i*0x1f3), rune(0x30000-997*i)
		if i%2 == 1 {
			r = rune(0x4e00 - 31*i)
		}
		a.Letters = append(a.Letters, api.Letter{Rune: r, Plus: plus & 0xffffff, Minus: ^plus & 0x5a5a5a})
	}
	return a
}

// alphabets are those on which all that follows is asked.
func alphabets() []api.Alphabet {
	return []api.Alphabet{sample(), mixed(), wide(), {Letters: []api.Letter{{Rune: 'q'}}}}
}

// inRow is all words of at most that many of the alphabet's first letters, as they stand in their row.
func inRow(a api.Alphabet, first, most int) []string {
	var l []string
	var grow func(ahead string, left int)
	grow = func(ahead string, left int) {
		l = append(l, ahead)
		if left == 0 {
			return
		}
		for _, x := range a.Letters[:min(first, len(a.Letters))] {
			grow(ahead+string(x.Rune), left-1)
		}
	}
	grow("", most)
	return l
}

// someWords is words worth asking of an alphabet: all short ones of a few letters, and long ones of all.
func someWords(a api.Alphabet) []string {
	l := inRow(a, 3, 4)
	for _, step := range []int{1, 3, 7} {
		var long []rune
		for i := range api.MaxWord {
			long = append(long, a.Letters[(i*i+step*i)%len(a.Letters)].Rune)
		}
		l = append(l, string(long), string(long[:9]), string(long[step:7]))
	}
	return l
}

// everyText hands on every text of at most that many of these parts.
func everyText(parts []string, most int, see func(s string)) {
	see("")
	if most == 0 {
		return
	}
	for _, p := range parts {
		everyText(parts, most-1, func(s string) { see(p + s) })
	}
}

// isLetter is whether a rune is a letter of the alphabet.
func isLetter(a api.Alphabet, r rune) bool {
	return slices.ContainsFunc(a.Letters, func(x api.Letter) bool { return x.Rune == r })
}

// lettersOf is what the document says of a word: its letters, or its error.
func lettersOf(a api.Alphabet, w string) ([]rune, api.Errno) {
	var l []rune
	for w != "" {
		r, n := utf8.DecodeRuneInString(w)
		if n == 1 && r == 0xfffd {
			return nil, api.ErrWord
		}
		if !isLetter(a, r) {
			return nil, api.ErrLetter
		}
		if len(l) == 64 {
			return nil, api.ErrMany
		}
		l = append(l, r)
		w = w[n:]
	}
	return l, api.OK
}

// wrongAlphabets are some that may not be.
func wrongAlphabets() []api.Alphabet {
	twice, both, beyond := sample(), sample(), sample()
	twice.Letters[2].Rune = 'a'
	both.Letters[0].Minus = 1
	beyond.Letters[1].Plus = 2
	return []api.Alphabet{{}, twice, both, beyond, {Features: []string{""}, Letters: sample().Letters}}
}

// wrongWords are words that may not be in the sample, with their errors.
func wrongWords() map[string]api.Errno {
	long := strings.Repeat("abca", api.MaxWord/4)
	return map[string]api.Errno{
		"abd": api.ErrLetter, "ab\xff": api.ErrWord, long + "a": api.ErrMany,
		"d": api.ErrLetter, "\xff": api.ErrWord, "d\xff": api.ErrLetter, "\xffd": api.ErrWord, "abdc": api.ErrLetter, "A": api.ErrLetter, "_": api.ErrLetter, "a b": api.ErrLetter, "a\x00": api.ErrLetter, "\u00e9": api.ErrLetter,
		"a\ufffd": api.ErrLetter, "a\ufffd\xff": api.ErrLetter, "a\xff\ufffd": api.ErrWord,
		"a\xc3": api.ErrWord, "\x80a": api.ErrWord, "a\xc1\xa1": api.ErrWord, "a\xed\xa0\x80": api.ErrWord, "\xf0\x90\x8c": api.ErrWord, "a\xf4\x90\x80\x80": api.ErrWord,
		long + "\xff": api.ErrWord, long + "d": api.ErrLetter, long + "\ufffd": api.ErrLetter, long + "a\xff": api.ErrMany, long + "ad": api.ErrMany, long[1:] + "\xff": api.ErrWord, long[1:] + "d": api.ErrLetter, long[1:] + "ad": api.ErrLetter,
		long[:63] + "\xc3\xa9": api.ErrLetter, long + "\xc3\xa9": api.ErrLetter, long + "\xf0\x90\x8c\xb0": api.ErrLetter, long + "\xf0\x90\x8c": api.ErrWord, "d" + long: api.ErrLetter, "\xff" + long: api.ErrWord,
		strings.Repeat("a", 100000): api.ErrMany, strings.Repeat("d", 100000): api.ErrLetter, strings.Repeat("\xff", 100000): api.ErrWord, "a" + strings.Repeat("\u00e9", 70000): api.ErrLetter,
	}
}
