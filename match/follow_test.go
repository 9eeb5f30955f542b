package match_test

import (
	"fmt"
	"reflect"
	"slices"
	"testing"

	"cognate/api"
	"cognate/match"
	"cognate/pattern"
	"cognate/word"
)

// copied is a pattern in memory of its own, with marks in its spare room.
func copied(p api.Pattern) api.Pattern {
	mark := api.Node{Kind: api.PatRune, Rune: 'M'}
	l := append(slices.Clone(p.Nodes), mark, mark)[:len(p.Nodes)]
	for i, n := range l {
		l[i].Kids = append(slices.Clone(n.Kids), -7, -7)[:len(n.Kids)]
	}
	return api.Pattern{Nodes: l}
}

// room is a pattern that copied made, with its spare room shown.
func room(p api.Pattern) api.Pattern {
	l := slices.Clone(p.Nodes[:len(p.Nodes)+2])
	for i, n := range l[:len(p.Nodes)] {
		l[i].Kids = n.Kids[:len(n.Kids)+2]
	}
	return api.Pattern{Nodes: l}
}

// lists are all lists that the calls answer of a pattern and a word.
func lists(t *testing.T, a api.Alphabet, p api.Pattern, w string) ([][]int, []api.Span) {
	t.Helper()
	numbers := fine[[]int](t)
	var l [][]int
	for at := range len([]rune(w)) + 1 {
		l = append(l, numbers(match.Ends(a, p, w, at)), numbers(match.Begins(a, p, w, at)))
	}
	return l, fine[[]api.Span](t)(match.All(a, p, w))
}

func TestP54OnlyRead(t *testing.T) {
	drawn(300, func(a api.Alphabet, p api.Pattern, w string) {
		a.Features, a.Letters = append(slices.Clone(a.Features), "mark"), append(slices.Clone(a.Letters), api.Letter{Rune: 'M'})
		kept := api.Alphabet{Features: slices.Clone(a.Features), Letters: slices.Clone(a.Letters)}
		handed, wrong := copied(p), copied(pattern.Rune('M'))
		b := api.Alphabet{Features: a.Features[:len(a.Features)-1], Letters: a.Letters[:len(a.Letters)-1]}
		for _, q := range []api.Pattern{handed, wrong} {
			match.Whole(b, q, w)
			match.Ends(b, q, w, 0)
			match.Begins(b, q, w, 0)
			match.First(b, q, w)
			match.All(b, q, w)
			match.Between(b, q, handed, w, 0, 0)
			match.Between(b, handed, q, w, 0, 0)
		}
		if !reflect.DeepEqual(room(handed), room(copied(p))) || !reflect.DeepEqual(room(wrong), room(copied(pattern.Rune('M')))) {
			t.Fatal(p, handed, wrong)
		}
		if !reflect.DeepEqual(a, kept) {
			t.Fatal(a)
		}
	})
}

func TestP54NewMemory(t *testing.T) {
	drawn(300, func(a api.Alphabet, p api.Pattern, w string) {
		places, all := lists(t, a, p, w)
		again, last := lists(t, a, p, w)
		want := fmt.Sprint(again, last)
		for i, l := range places {
			// What is put behind one list shows in no other one.
			_ = append(l, -1, -1)
			clear(places[i][:cap(l)])
		}
		clear(all[:cap(all)])
		if got := fmt.Sprint(again, last); got != want {
			t.Fatalf("%v in %q: %s, %s", p, w, got, want)
		}
		if got := fmt.Sprint(lists(t, a, p, w)); got != want {
			t.Fatalf("%v in %q: %s, %s", p, w, got, want)
		}
	})
}

// TestP54NothingKept changes what was handed in: the next answer is of what it is then.
func TestP54NothingKept(t *testing.T) {
	is := fine[bool](t)
	a, p := sample(), pattern.Class(1, 0)
	if !is(match.Whole(a, p, "e")) {
		t.Error("e is a vowel")
	}
	a.Letters[1] = api.Letter{Rune: 'e', Minus: 1}
	if is(match.Whole(a, p, "e")) {
		t.Error("e is none any more")
	}
	p.Nodes[0] = api.Node{Kind: api.PatAny}
	if !is(match.Whole(a, p, "e")) {
		t.Error("any letter is well")
	}
}

func TestP55EndsAndBegins(t *testing.T) {
	drawn(800, func(a api.Alphabet, p api.Pattern, w string) {
		l, _ := lists(t, a, p, w)
		end := len([]rune(w))
		for from := range end + 1 {
			for to := range end + 1 {
				if slices.Contains(l[2*from], to) != slices.Contains(l[2*to+1], from) {
					t.Fatalf("%v in %q from %d to %d", p, w, from, to)
				}
			}
			if !slices.IsSorted(l[2*from]) || !slices.IsSorted(l[2*from+1]) {
				t.Fatalf("%v in %q at %d: %v", p, w, from, l)
			}
		}
		if fine[bool](t)(match.Whole(a, p, w)) != slices.Contains(l[0], end) {
			t.Fatalf("%v in %q", p, w)
		}
	})
}

func TestP55Spans(t *testing.T) {
	drawn(800, func(a api.Alphabet, p api.Pattern, w string) {
		l, all := lists(t, a, p, w)
		var want found
		if len(all) > 0 {
			want = found{all[0], true}
		}
		if got := first(t, a, p, w); got != want {
			t.Fatalf("%v in %q: %v, %v", p, w, got, all)
		}
		end := 0
		for _, s := range all {
			if ends := l[2*s.From]; s.From < end || len(ends) == 0 || ends[len(ends)-1] != s.To {
				t.Fatalf("%v in %q: %v", p, w, all)
			}
			end = s.To
		}
	})
}

func TestP55Between(t *testing.T) {
	d := dice(3)
	drawn(600, func(a api.Alphabet, left api.Pattern, w string) {
		right := d.pattern(a, 1+d.roll(9))
		begins, _ := lists(t, a, left, w)
		ends, _ := lists(t, a, right, w)
		end := len([]rune(w))
		for range 20 {
			from, to := d.roll(end+1), d.roll(end+1)
			if fine[bool](t)(match.Between(a, left, right, w, from, to)) != (len(begins[2*from+1]) > 0 && len(ends[2*to]) > 0) {
				t.Fatalf("%v, %v in %q from %d to %d", left, right, w, from, to)
			}
		}
	})
}

// TestP55Numbering hands in the same patterns in another numbering: that of pattern.Turned twice is the one numbering.
func TestP55Numbering(t *testing.T) {
	drawn(500, func(a api.Alphabet, p api.Pattern, w string) {
		made := fine[api.Pattern](t)
		q := made(pattern.Turned(made(pattern.Turned(p))))
		places, all := lists(t, a, p, w)
		if l, s := lists(t, a, q, w); !reflect.DeepEqual(l, places) || !reflect.DeepEqual(s, all) {
			t.Fatalf("%v, %v in %q", p, q, w)
		}
	})
}

func TestP56Turned(t *testing.T) {
	turnedWord, turned := fine[string](t), fine[api.Pattern](t)
	drawn(800, func(a api.Alphabet, p api.Pattern, w string) {
		l, _ := lists(t, a, p, w)
		back, _ := lists(t, a, turned(pattern.Turned(p)), turnedWord(word.Turned(a, w)))
		end := len([]rune(w))
		for at := range end + 1 {
			begins := slices.Clone(back[2*(end-at)+1])
			for i, b := range begins {
				begins[i] = end - b
			}
			slices.Reverse(begins)
			if !slices.Equal(l[2*at], begins) {
				t.Fatalf("%v in %q: to %v from %d, turned %v", p, w, l[2*at], at, begins)
			}
		}
	})
}
