package feature_test

import (
	"reflect"
	"slices"
	"strings"
	"testing"

	"cognate/api"
	"cognate/feature"
)

// copied is an alphabet in memory of its own, its spare room told by marks.
func copied(a api.Alphabet) api.Alphabet {
	b := api.Alphabet{
		Features: append(slices.Clone(a.Features), "mark", "mark"),
		Letters:  append(slices.Clone(a.Letters), api.Letter{Rune: 'M', Plus: 1}, api.Letter{Rune: 'M', Minus: 1}),
	}
	b.Features = b.Features[:len(a.Features)]
	b.Letters = b.Letters[:len(a.Letters)]
	return b
}

// room is an alphabet with its spare room shown.
func room(a api.Alphabet) api.Alphabet {
	return api.Alphabet{Features: a.Features[:len(a.Features)+2], Letters: a.Letters[:len(a.Letters)+2]}
}

func TestP26OnlyRead(t *testing.T) {
	for i, a := range alphabets() {
		handed, kept := copied(a), copied(a)
		list := append(runesOf(a)[6:], 'M')
		list = list[:len(list)-1]
		before := slices.Clone(list[:len(list)+1])
		x, y := a.Letters[0].Rune, a.Letters[len(a.Letters)-1].Rune
		feature.Check(handed)
		feature.Of(handed, x)
		feature.Far(handed, x, y)
		feature.Least(handed, list)
		for _, class := range classesOf(a) {
			feature.Has(handed, x, class[0], class[1])
			feature.Class(handed, class[0], class[1])
			feature.Near(handed, y, class[0], class[1])
			s, _ := feature.Text(handed, class[0], class[1])
			feature.Parse(handed, s)
			feature.Bit(handed, strings.TrimLeft(s, "+-"))
		}
		if !reflect.DeepEqual(room(handed), room(kept)) || !slices.Equal(list[:len(list)+1], before) {
			t.Errorf("%d: changed", i)
		}
	}
}

func TestP26NewMemory(t *testing.T) {
	a := sample()
	one, _ := feature.Class(a, 0, 0)
	other, _ := feature.Class(a, 0, 0)
	for i := range one {
		one[i] = 'z'
	}
	if string(other) != "pbmah" || !reflect.DeepEqual(a, sample()) {
		t.Error(string(other), a)
	}
	_ = append(other[:2], 'q', 'q', 'q')
	if again, e := feature.Class(a, 0, 0); string(again) != "pbmah" || e != api.OK {
		t.Error(string(again), e)
	}
}

// TestP26NothingKept changes what was handed in: the next answer is of what it is then.
func TestP26NothingKept(t *testing.T) {
	a := sample()
	feature.Near(a, 'p', 1, 0)
	feature.Bit(a, "nasal")
	a.Letters[1].Rune, a.Features[1] = 'd', "long"
	if n, e := feature.Near(a, 'p', 1, 0); n != 'd' || e != api.OK {
		t.Error(string(n), e)
	}
	if _, e := feature.Bit(a, "nasal"); e != api.ErrNone {
		t.Error(e)
	}
	if s, e := feature.Text(a, 2, 0); s != "+long" || e != api.OK {
		t.Error(s, e)
	}
}

func TestP27NearOfNothing(t *testing.T) {
	for i, a := range alphabets() {
		for j := range a.Letters {
			x := &a.Letters[j]
			r, e := feature.Near(a, x.Rune, 0, 0)
			first := slices.IndexFunc(a.Letters, func(y api.Letter) bool { return y.Plus == x.Plus && y.Minus == x.Minus })
			if e != api.OK || r != a.Letters[first].Rune {
				t.Errorf("%d: %x: %x, %d", i, x.Rune, r, e)
			}
			if n, e := feature.Far(a, x.Rune, r); n != 0 || e != api.OK {
				t.Errorf("%d: %x is far by %d, %d", i, x.Rune, n, e)
			}
		}
	}
}

func TestP27Far(t *testing.T) {
	for i, a := range alphabets() {
		letters := a.Letters[:min(len(a.Letters), 20)]
		far := func(x, y api.Letter) int {
			n, e := feature.Far(a, x.Rune, y.Rune)
			if e != api.OK {
				t.Fatal(i, x, y, e)
			}
			return n
		}
		for _, x := range letters {
			for _, y := range letters {
				same := x.Plus == y.Plus && x.Minus == y.Minus
				if n := far(x, y); (n == 0) != same || n != far(y, x) || n > len(a.Features) {
					t.Fatal(i, x, y, n)
				}
				for _, z := range letters {
					if far(x, z) > far(x, y)+far(y, z) {
						t.Fatal(i, x, y, z)
					}
				}
			}
		}
	}
}

func TestP27Least(t *testing.T) {
	for i, a := range alphabets() {
		letters := runesOf(a)[6:]
		for from := 0; from < len(letters); from += 1 + len(letters)/9 {
			for to := from + 1; to <= len(letters); to += 1 + len(letters)/9 {
				checkLeast(t, i, a, letters[from:to])
			}
		}
	}
}

// checkLeast asks that all of l have Least, and that nothing more can be put to it.
func checkLeast(t *testing.T, i int, a api.Alphabet, l []rune) {
	plus, minus, e := feature.Least(a, l)
	if e != api.OK {
		t.Fatal(i, string(l), e)
	}
	all := func(plus, minus uint32) bool {
		for _, r := range l {
			if is, e := feature.Has(a, r, plus, minus); !is || e != api.OK {
				return false
			}
		}
		return true
	}
	if !all(plus, minus) {
		t.Fatalf("%d: %q have not %x, %x", i, string(l), plus, minus)
	}
	for f := range a.Features {
		if bit := uint32(1) << f; (plus|minus)&bit == 0 && (all(bit, 0) || all(0, bit)) {
			t.Fatalf("%d: %q: %x, %x is without %x", i, string(l), plus, minus, bit)
		}
	}
}

func TestP28TextAndParse(t *testing.T) {
	for i, a := range alphabets() {
		for _, class := range classesOf(a) {
			s, e := feature.Text(a, class[0], class[1])
			if e != api.OK {
				t.Fatal(i, class, e)
			}
			if plus, minus, at, e := feature.Parse(a, s); plus != class[0] || minus != class[1] || at != 0 || e != api.OK {
				t.Fatalf("%d: %s: %x, %x, %d, %d", i, s, plus, minus, at, e)
			}
			mixed := things(s)
			slices.Reverse(mixed)
			if plus, minus, at, e := feature.Parse(a, strings.Join(mixed, "")); plus != class[0] || minus != class[1] || at != 0 || e != api.OK {
				t.Fatalf("%d: %s: %x, %x, %d, %d", i, mixed, plus, minus, at, e)
			}
		}
	}
}

func TestP28ClassOfMore(t *testing.T) {
	for i, a := range alphabets() {
		for _, few := range classesOf(a) {
			wider, e := feature.Class(a, few[0], few[1])
			if e != api.OK {
				t.Fatal(i, few, e)
			}
			for f := range a.Features {
				bit := uint32(1) << f
				if (few[0]|few[1])&bit != 0 {
					continue
				}
				for _, more := range [][2]uint32{{few[0] | bit, few[1]}, {few[0], few[1] | bit}} {
					l, e := feature.Class(a, more[0], more[1])
					if e != api.OK || slices.ContainsFunc(l, func(r rune) bool { return !slices.Contains(wider, r) }) {
						t.Fatal(i, few, more, string(l), e)
					}
				}
			}
		}
	}
}
