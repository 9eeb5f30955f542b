package feature_test

import (
	"strings"
	"testing"

	"cognate/api"
	"cognate/feature"
)

func TestP21Check(t *testing.T) {
	for i, a := range alphabets() {
		if e := feature.Check(a); e != api.OK {
			t.Errorf("%d: %d", i, e)
		}
	}
}

// turnedSample is the sample, changed.
func turnedSample(change func(a *api.Alphabet)) api.Alphabet {
	a := sample()
	change(&a)
	return a
}

// wrongAlphabets are those that may not be, each by one fault alone.
func wrongAlphabets() map[string]api.Alphabet {
	crowded := wide()
	crowded.Features = append(crowded.Features, "a")
	many := wide()
	many.Letters = append(many.Letters, api.Letter{Rune: 'a'})
	return map[string]api.Alphabet{
		"nothing":             {},
		"no letter":           turnedSample(func(a *api.Alphabet) { a.Letters = nil }),
		"25 features":         crowded,
		"129 letters":         many,
		"one letter twice":    turnedSample(func(a *api.Alphabet) { a.Letters[4].Rune = 'p' }),
		"neighbours alike":    turnedSample(func(a *api.Alphabet) { a.Letters[3].Rune = 'h' }),
		"one name twice":      turnedSample(func(a *api.Alphabet) { a.Features[2] = "voiced" }),
		"both signs":          turnedSample(func(a *api.Alphabet) { a.Letters[4] = api.Letter{Rune: 'h', Plus: 4, Minus: 4} }),
		"both signs of some":  turnedSample(func(a *api.Alphabet) { a.Letters[1].Minus |= 1 }),
		"plus beyond":         turnedSample(func(a *api.Alphabet) { a.Letters[4].Plus = 8 }),
		"minus beyond":        turnedSample(func(a *api.Alphabet) { a.Letters[4].Minus = 8 }),
		"plus far beyond":     turnedSample(func(a *api.Alphabet) { a.Letters[0].Plus = 1 << 31 }),
		"beyond all features": {Features: crowded.Features[:24], Letters: []api.Letter{{Rune: 'a', Plus: 1 << 24}}},
		"beyond none":         {Letters: []api.Letter{{Rune: 'a', Minus: 1}}},
	}
}

func TestP21CheckRefuses(t *testing.T) {
	for what, a := range wrongAlphabets() {
		if e := feature.Check(a); e != api.ErrAlphabet {
			t.Errorf("%s: %d", what, e)
		}
	}
}

func TestP21CheckNames(t *testing.T) {
	long := strings.Repeat("q", api.MaxName)
	for _, name := range []string{"a", "z", "az", "voice", "voicedx", "d", long, long[1:]} {
		a := turnedSample(func(a *api.Alphabet) { a.Features[1] = name })
		if e := feature.Check(a); e != api.OK {
			t.Errorf("%q: %d", name, e)
		}
	}
	for _, name := range []string{"", "`", "{", "A", "Z", "0", "-", "+a", "a b", "na_sal", "nasaL", "a\x00", "\x00", "é", "a\xff", "\xff", long + "q", strings.Repeat("q", api.MaxText+1)} {
		for at := range 3 {
			a := turnedSample(func(a *api.Alphabet) { a.Features[at] = name })
			if e := feature.Check(a); e != api.ErrAlphabet {
				t.Errorf("%d: %q: %d", at, name, e)
			}
		}
	}
}

// mayBeLetter is what the document says of letters' runes.
func mayBeLetter(r rune) bool {
	ascii := strings.ContainsRune("abcdefghijklmnopqrstuvwxyzABCDEFGHIJKLMNOPQRSTUVWXYZ", r)
	beyond := r >= 0xa1 && r <= 0x10ffff && (r < 0xd800 || r > 0xdfff) && r != 0xfffd
	return r != 0xfffd && ascii || beyond
}

func TestP21CheckEveryRune(t *testing.T) {
	a := api.Alphabet{Letters: []api.Letter{{Rune: 0xa1}, {}}}
	for r := rune(-300); r < 0x110100; r++ {
		a.Letters[1].Rune = r
		want := api.ErrAlphabet
		if mayBeLetter(r) && r != 0xa1 {
			want = api.OK
		}
		if e := feature.Check(a); e != want {
			t.Fatalf("%x: %d", r, e)
		}
	}
	for _, r := range []rune{-1 << 31, 1<<31 - 1, 1 << 30} {
		a.Letters[1].Rune = r
		if e := feature.Check(a); e != api.ErrAlphabet {
			t.Errorf("%x: %d", r, e)
		}
	}
}

// TestP21AlphabetFirst hands in other faults, too: that of the alphabet is ahead of all.
func TestP21AlphabetFirst(t *testing.T) {
	long := strings.Repeat("+", api.MaxText+1)
	for what, a := range wrongAlphabets() {
		for _, bad := range []bool{false, true} {
			r, m, s, l := 'b', uint32(0), "", []rune("b")
			if bad {
				r, m, s, l = '_', 1<<31, long, make([]rune, api.MaxLetters+1)
			}
			if x, e := feature.Of(a, r); x != (api.Letter{}) || e != api.ErrAlphabet {
				t.Error(what, "Of:", x, e)
			}
			if is, e := feature.Has(a, r, m, m); is || e != api.ErrAlphabet {
				t.Error(what, "Has:", is, e)
			}
			if c, e := feature.Class(a, m, m); len(c) > 0 || e != api.ErrAlphabet {
				t.Error(what, "Class:", c, e)
			}
			if n, e := feature.Near(a, r, m, m); n != 0 || e != api.ErrAlphabet {
				t.Error(what, "Near:", n, e)
			}
			if n, e := feature.Far(a, r, r); n != 0 || e != api.ErrAlphabet {
				t.Error(what, "Far:", n, e)
			}
			if p, m, e := feature.Least(a, l); p != 0 || m != 0 || e != api.ErrAlphabet {
				t.Error(what, "Least:", p, m, e)
			}
			if n, e := feature.Bit(a, s); n != 0 || e != api.ErrAlphabet {
				t.Error(what, "Bit:", n, e)
			}
			if n, e := feature.Bit(a, "voiced"); n != 0 || e != api.ErrAlphabet {
				t.Error(what, "Bit of a name:", n, e)
			}
			if out, e := feature.Text(a, m, m); out != "" || e != api.ErrAlphabet {
				t.Error(what, "Text:", out, e)
			}
			if p, m, at, e := feature.Parse(a, s); p != 0 || m != 0 || at != 0 || e != api.ErrAlphabet {
				t.Error(what, "Parse:", p, m, at, e)
			}
		}
	}
}
