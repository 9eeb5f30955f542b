package feature_test

import (
	"slices"
	"testing"

	"cognate/api"
	"cognate/feature"
)

func TestP21Of(t *testing.T) {
	for i, a := range alphabets() {
		for _, r := range runesOf(a) {
			want, refused := api.Letter{}, api.ErrLetter
			if x := letter(a, r); x != nil {
				want, refused = *x, api.OK
			}
			if x, e := feature.Of(a, r); x != want || e != refused {
				t.Errorf("%d: %x: %v, %d", i, r, x, e)
			}
		}
	}
}

func TestP21Bit(t *testing.T) {
	for i, a := range alphabets() {
		for f, name := range a.Features {
			if bit, e := feature.Bit(a, name); bit != 1<<f || e != api.OK {
				t.Errorf("%d: %s: %d, %d", i, name, bit, e)
			}
		}
		for _, name := range []string{"", "voice", "voicedd", "Voiced", "+voiced", " voiced", "voiced ", "\xff", string(make([]byte, api.MaxText+1))} {
			if bit, e := feature.Bit(a, name); bit != 0 || e != api.ErrNone {
				t.Errorf("%d: %.9s: %d, %d", i, name, bit, e)
			}
		}
	}
	if bit, e := feature.Bit(sample(), "nasal"); bit != 2 || e != api.OK {
		t.Error(bit, e)
	}
}

func TestP22Has(t *testing.T) {
	for i, c := range []struct {
		r           rune
		plus, minus uint32
		want        bool
		e           api.Errno
	}{
		{'b', 1, 2, true, api.OK}, {'h', 1, 0, false, api.OK}, {'h', 0, 0, true, api.OK},
		{'b', 1, 6, true, api.OK}, {'b', 0, 1, false, api.OK}, {'m', 1, 2, false, api.OK}, {'a', 5, 2, true, api.OK}, {'a', 7, 0, false, api.OK}, {'h', 0, 4, false, api.OK},
		{'z', 0, 0, false, api.ErrLetter}, {'z', 1, 1, false, api.ErrLetter}, {'z', 8, 0, false, api.ErrLetter}, {0, 0, 0, false, api.ErrLetter},
		{'b', 1, 1, false, api.ErrFeature}, {'b', 8, 0, false, api.ErrFeature}, {'b', 0, 1 << 31, false, api.ErrFeature},
	} {
		if is, e := feature.Has(sample(), c.r, c.plus, c.minus); is != c.want || e != c.e {
			t.Error(i, is, e)
		}
	}
}

func TestP22HasAndClassOfAll(t *testing.T) {
	for i, a := range alphabets() {
		for _, plus := range masksOf(a) {
			for _, minus := range masksOf(a) {
				checkClass(t, i, a, plus, minus)
			}
		}
	}
}

// checkClass asks Class, and Has of each letter, against what the document says.
func checkClass(t *testing.T, i int, a api.Alphabet, plus, minus uint32) {
	refused := api.ErrFeature
	if mayBe(a, plus, minus) {
		refused = api.OK
	}
	var want []rune
	for j := range a.Letters {
		x := &a.Letters[j]
		has := refused == api.OK && hasClass(a, x, plus, minus)
		if has {
			want = append(want, x.Rune)
		}
		if is, e := feature.Has(a, x.Rune, plus, minus); is != has || e != refused {
			t.Fatalf("%d: Has %x, %x, %x: %t, %d", i, x.Rune, plus, minus, is, e)
		}
	}
	if l, e := feature.Class(a, plus, minus); !slices.Equal(l, want) || e != refused {
		t.Fatalf("%d: Class %x, %x: %q, %d", i, plus, minus, string(l), e)
	}
}

func TestP22Class(t *testing.T) {
	for i, c := range []struct {
		plus, minus uint32
		want        string
		e           api.Errno
	}{
		{1, 4, "bm", api.OK}, {0, 0, "pbmah", api.OK}, {0, 1, "p", api.OK}, {0, 4, "pbm", api.OK}, {5, 0, "a", api.OK}, {7, 0, "", api.OK}, {0, 2, "pba", api.OK},
		{1, 1, "", api.ErrFeature}, {8, 0, "", api.ErrFeature}, {0, 8, "", api.ErrFeature}, {7, 4, "", api.ErrFeature},
	} {
		if l, e := feature.Class(sample(), c.plus, c.minus); string(l) != c.want || e != c.e {
			t.Error(i, string(l), e)
		}
	}
}

func TestP23Near(t *testing.T) {
	for i, c := range []struct {
		r           rune
		plus, minus uint32
		want        rune
		e           api.Errno
	}{
		{'p', 1, 0, 'b', api.OK}, {'b', 2, 1, 'p', api.OK}, {'b', 0, 0, 'b', api.OK},
		{'m', 0, 2, 'b', api.OK}, {'m', 4, 2, 'a', api.OK}, {'h', 1, 0, 'h', api.OK}, {'h', 0, 3, 'p', api.OK}, {'p', 6, 1, 'p', api.OK}, {'a', 2, 4, 'm', api.OK},
		{'z', 0, 0, 0, api.ErrLetter}, {'z', 8, 8, 0, api.ErrLetter},
		{'p', 1, 1, 0, api.ErrFeature}, {'p', 8, 0, 0, api.ErrFeature}, {'p', 0, 8, 0, api.ErrFeature},
	} {
		if n, e := feature.Near(sample(), c.r, c.plus, c.minus); n != c.want || e != c.e {
			t.Error(i, string(n), e)
		}
	}
}

func TestP23NearOfAll(t *testing.T) {
	for i, a := range alphabets() {
		letters := a.Letters[:min(len(a.Letters), 20)]
		for _, class := range classesOf(a) {
			for j := range letters {
				x := &letters[j]
				want := nearest(a, signsOf(a, x, class[0], class[1]))
				if n, e := feature.Near(a, x.Rune, class[0], class[1]); n != want || e != api.OK {
					t.Fatalf("%d: %x, %x: %x, want %x, %d", i, x.Rune, class, n, want, e)
				}
			}
		}
	}
}

// TestP23NearFarthest turns all features of the only letter: it is the nearest nevertheless.
func TestP23NearFarthest(t *testing.T) {
	const all = 1<<api.MaxFeatures - 1
	a := wide()
	a.Letters = []api.Letter{{Rune: 'a', Plus: all}}
	if n, e := feature.Near(a, 'a', 0, all); n != 'a' || e != api.OK {
		t.Error(string(n), e)
	}
}

func TestP23Far(t *testing.T) {
	for i, c := range []struct {
		x, y rune
		want int
		e    api.Errno
	}{
		{'p', 'm', 2, api.OK}, {'p', 'h', 3, api.OK}, {'a', 'a', 0, api.OK}, {'b', 'p', 1, api.OK}, {'m', 'a', 2, api.OK}, {'h', 'h', 0, api.OK},
		{'p', 'z', 0, api.ErrLetter}, {'z', 'p', 0, api.ErrLetter}, {'z', 'z', 0, api.ErrLetter}, {0, 'p', 0, api.ErrLetter}, {'p', -1, 0, api.ErrLetter},
	} {
		if n, e := feature.Far(sample(), c.x, c.y); n != c.want || e != c.e {
			t.Error(i, n, e)
		}
	}
}

func TestP23FarOfAll(t *testing.T) {
	for i, a := range alphabets() {
		for j := range a.Letters {
			for k := range a.Letters {
				x, y := &a.Letters[j], &a.Letters[k]
				want := differ(signsOf(a, x, 0, 0), signsOf(a, y, 0, 0))
				if n, e := feature.Far(a, x.Rune, y.Rune); n != want || e != api.OK {
					t.Fatalf("%d: %x, %x: %d, want %d, %d", i, x.Rune, y.Rune, n, want, e)
				}
			}
		}
	}
}

func TestP24Least(t *testing.T) {
	full := slices.Repeat([]rune("b"), api.MaxLetters)
	wrong := slices.Repeat([]rune("z"), api.MaxLetters+1)
	for i, c := range []struct {
		l           []rune
		plus, minus uint32
		e           api.Errno
	}{
		{[]rune("bm"), 1, 4, api.OK}, {[]rune("ph"), 0, 0, api.OK}, {nil, 0, 0, api.ErrNone}, {[]rune{}, 0, 0, api.ErrNone},
		{[]rune("p"), 0, 7, api.OK}, {[]rune("a"), 5, 2, api.OK}, {[]rune("pb"), 0, 6, api.OK}, {[]rune("ba"), 1, 2, api.OK}, {[]rune("ma"), 1, 0, api.OK}, {[]rune("mbmb"), 1, 4, api.OK},
		{[]rune("z"), 0, 0, api.ErrLetter}, {[]rune("bz"), 0, 0, api.ErrLetter}, {[]rune{'b', 0}, 0, 0, api.ErrLetter}, {[]rune("phz"), 0, 0, api.ErrLetter},
		{full, 1, 6, api.OK}, {append(full[:len(full):len(full)], 'b'), 0, 0, api.ErrMany}, {wrong, 0, 0, api.ErrMany}, {wrong[1:], 0, 0, api.ErrLetter},
	} {
		if plus, minus, e := feature.Least(sample(), c.l); plus != c.plus || minus != c.minus || e != c.e {
			t.Error(i, plus, minus, e)
		}
	}
}
