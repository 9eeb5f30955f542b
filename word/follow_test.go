package word_test

import (
	"reflect"
	"slices"
	"testing"
	"unsafe"

	"cognate/api"
	"cognate/word"
)

// shares tells whether two texts lie in the same memory.
func shares(a, b string) bool {
	if a == "" || b == "" {
		return false
	}
	x, y := uintptr(unsafe.Pointer(unsafe.StringData(a))), uintptr(unsafe.Pointer(unsafe.StringData(b)))
	return x < y+uintptr(len(b)) && y < x+uintptr(len(a))
}

// fine is what a call answered, which must be well.
func fine[T any](t *testing.T) func(x T, e api.Errno) T {
	return func(x T, e api.Errno) T {
		t.Helper()
		if e != api.OK {
			t.Fatal(x, e)
		}
		return x
	}
}

func TestP35TextsAreNew(t *testing.T) {
	text, list := fine[string](t), fine[[]string](t)
	for _, w := range []string{"cabbac", "aba", "bb"} {
		whole := text(word.Part(sample(), w, 0, len(w)))
		answers := []string{
			whole, text(word.Part(sample(), w, 0, len(w))), text(word.Part(sample(), w, 1, 2)), text(word.Join(sample(), []string{w})), text(word.Join(sample(), []string{"", w, ""})), text(word.Turned(sample(), w)), list(word.Sort(sample(), []string{w}))[0],
		}
		answers = append(answers, list(word.Sort(sample(), []string{w, "a", w, "c"}))...)
		for i, x := range answers {
			for _, other := range answers[:i] {
				if shares(x, other) {
					t.Errorf("%q: %q and %q", w, x, other)
				}
			}
			if shares(w, x) {
				t.Errorf("%q: %q", w, x)
			}
		}
	}
}

func TestP35ListsAreNew(t *testing.T) {
	letters, numbers, cut, list := fine[[]rune](t), fine[[]int](t), fine[[]api.Span](t), fine[[]string](t)
	for range 2 {
		l := letters(word.Letters(sample(), "bacab"))
		p := numbers(word.Peaks(sample(), "bacab", 1, 0))
		s := cut(word.Syllables(sample(), "bacab", 1, 0))
		w := list(word.Sort(sample(), []string{"b", "a"}))
		if string(l) != "bacab" || !slices.Equal(p, []int{1, 3}) || !slices.Equal(s, spans(0, 2, 2, 5)) || !slices.Equal(w, []string{"a", "b"}) {
			t.Fatal(string(l), p, s, w)
		}
		l = append(l, 'x')
		clear(l[:cap(l)])
		clear(p[:cap(p)])
		clear(s[:cap(s)])
		clear(w[:cap(w)])
	}
}

func TestP35OnlyRead(t *testing.T) {
	a := sample()
	a.Features = append(a.Features, "mark")[:1]
	a.Letters = append(a.Letters, api.Letter{Rune: 'M', Minus: 1})[:3]
	list := append([]string{"c", "ab", "c", "", "a"}, "b", "mark")[:5]
	run := append([]rune("cab"), 'M')[:3]
	for range 2 {
		word.Sort(a, list)
		word.Join(a, list)
		word.Text(a, run)
		word.Letters(a, "cab")
		word.Part(a, "cab", 1, 2)
		word.Turned(a, "cab")
		word.Peaks(a, "cab", 1, 0)
		word.Syllables(a, "cab", 1, 0)
		word.Cmp(a, "cab", "ca")
		word.Common(a, "cab", "ca")
	}
	if !slices.Equal(list[:7], []string{"c", "ab", "c", "", "a", "b", "mark"}) || string(run[:4]) != "cabM" {
		t.Error(list[:7], string(run[:4]))
	}
	if a.Features[:2][1] != "mark" || a.Letters[:4][3] != (api.Letter{Rune: 'M', Minus: 1}) || !reflect.DeepEqual(a, sample()) {
		t.Error(a)
	}
}

// TestP35NothingKept changes what was handed in: the next answer is of what it is then.
func TestP35NothingKept(t *testing.T) {
	a := sample()
	fine[int](t)(word.Cmp(a, "a", "b"))
	a.Letters[0], a.Letters[1] = a.Letters[1], a.Letters[0]
	if n := fine[int](t)(word.Cmp(a, "a", "b")); n != 1 {
		t.Error(n)
	}
	a.Letters[2].Rune = 'd'
	if e := word.Check(a, "c"); e != api.ErrLetter {
		t.Error(e)
	}
	l := []rune("ab")
	s := fine[string](t)(word.Text(a, l))
	l[0] = 'd'
	if s != "ab" {
		t.Error(s)
	}
}

func TestP36CmpIsAnOrder(t *testing.T) {
	number := fine[int](t)
	for _, a := range alphabets() {
		l := append(inRow(a, 3, 2), someWords(a)[len(someWords(a))-9:]...)
		for _, x := range l {
			for _, y := range l {
				n := number(word.Cmp(a, x, y))
				if n != -number(word.Cmp(a, y, x)) || (n == 0) != (x == y) {
					t.Fatalf("%q, %q: %d", x, y, n)
				}
				for _, z := range l {
					if n < 0 && number(word.Cmp(a, y, z)) < 0 && number(word.Cmp(a, x, z)) >= 0 {
						t.Fatalf("%q, %q, %q", x, y, z)
					}
				}
			}
		}
	}
}

func TestP36Sort(t *testing.T) {
	list := fine[[]string](t)
	for _, a := range alphabets() {
		for seed := range uint32(4) {
			l := shuffled(someWords(a), seed)
			sorted := list(word.Sort(a, l))
			for i, w := range sorted {
				if i > 0 && fine[int](t)(word.Cmp(a, sorted[i-1], w)) != -1 {
					t.Fatalf("%q is behind %q", w, sorted[i-1])
				}
				if !slices.Contains(l, w) {
					t.Fatalf("%q was not handed in", w)
				}
			}
			for _, w := range l {
				if !slices.Contains(sorted, w) {
					t.Fatalf("%q is lost", w)
				}
			}
			if !slices.Equal(list(word.Sort(a, sorted)), sorted) {
				t.Fatalf("%q", sorted)
			}
		}
	}
}

func TestP37Cuts(t *testing.T) {
	text := fine[string](t)
	for _, a := range alphabets() {
		for _, w := range someWords(a) {
			l := fine[[]rune](t)(word.Letters(a, w))
			if s := text(word.Text(a, l)); s != w {
				t.Fatalf("%q: %q", w, s)
			}
			for cut := range len(l) + 1 {
				one, other := text(word.Part(a, w, 0, cut)), text(word.Part(a, w, cut, len(l)))
				if s := text(word.Join(a, []string{one, other})); s != w {
					t.Fatalf("%q cut at %d: %q", w, cut, s)
				}
			}
			if s := text(word.Turned(a, text(word.Turned(a, w)))); s != w {
				t.Fatalf("%q: %q", w, s)
			}
		}
	}
}

func TestP37TwoWords(t *testing.T) {
	text := fine[string](t)
	for _, a := range alphabets() {
		l := inRow(a, 3, 4)
		for _, x := range l {
			for _, y := range l {
				turned := text(word.Turned(a, text(word.Join(a, []string{x, y}))))
				parts := []string{text(word.Turned(a, y)), text(word.Turned(a, x))}
				if s := text(word.Join(a, parts)); s != turned {
					t.Fatalf("%q, %q: %q, %q", x, y, s, turned)
				}
				n := fine[int](t)(word.Common(a, x, y))
				if n > len([]rune(x)) || n > len([]rune(y)) {
					t.Fatalf("%q, %q: %d", x, y, n)
				}
				if text(word.Part(a, x, 0, n)) != text(word.Part(a, y, 0, n)) {
					t.Fatalf("%q, %q are unlike up to %d", x, y, n)
				}
			}
		}
	}
}

// checkSyllables asks of one word's syllables what is promised of all.
func checkSyllables(t *testing.T, a api.Alphabet, w string, class [2]uint32) {
	peaks := fine[[]int](t)(word.Peaks(a, w, class[0], class[1]))
	l := fine[[]api.Span](t)(word.Syllables(a, w, class[0], class[1]))
	if len(l) != len(peaks) {
		t.Fatalf("%q, %x: %v about %d", w, class, l, peaks)
	}
	if len(l) == 0 {
		return
	}
	end := 0
	var parts []string
	for i, s := range l {
		own := slices.DeleteFunc(slices.Clone(peaks), func(p int) bool { return p < s.From || p >= s.To })
		if s.From != end || len(own) != 1 || own[0] != peaks[i] || i > 0 && own[0]-s.From > 1 {
			t.Fatalf("%q, %x: %v about %d", w, class, l, peaks)
		}
		end = s.To
		parts = append(parts, fine[string](t)(word.Part(a, w, s.From, s.To)))
	}
	if s := fine[string](t)(word.Join(a, parts)); s != w {
		t.Fatalf("%q, %x: %q", w, class, s)
	}
}

func TestP38Syllables(t *testing.T) {
	for _, a := range alphabets() {
		words := append(inRow(a, 2, 7), someWords(a)...)
		for _, class := range classes(a) {
			for _, w := range words {
				checkSyllables(t, a, w, class)
			}
		}
	}
}
