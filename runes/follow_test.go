package runes_test

import (
	"slices"
	"strings"
	"testing"
	"unsafe"

	"cognate/api"
	"cognate/runes"
)

// shares tells whether two texts lie in the same memory.
func shares(a, b string) bool {
	if a == "" || b == "" {
		return false
	}
	x, y := uintptr(unsafe.Pointer(unsafe.StringData(a))), uintptr(unsafe.Pointer(unsafe.StringData(b)))
	return x < y+uintptr(len(b)) && y < x+uintptr(len(a))
}

func TestP17TextsAreNew(t *testing.T) {
	for _, s := range []string{"plain text", example, `a "quoted" text`, "\xff\xfe"} {
		n, _ := runes.Len(s)
		all, _ := runes.Part(s, 0, n)
		first, _ := runes.Part(s, 0, 1)
		last, _ := runes.Part(s, n-1, n)
		back, _ := runes.Back(s)
		q, _ := runes.Quote(s)
		plain, _, _ := runes.Plain(q)
		for i, x := range []string{all, first, last, back, q, plain} {
			if x == "" || shares(s, x) || x != q && shares(q, x) {
				t.Errorf("%q: %d: %q", s, i, x)
			}
		}
		again, _ := runes.Part(s, 0, n)
		if again != all || shares(again, all) {
			t.Errorf("%q: two parts are one", s)
		}
	}
}

func TestP17ListsAreNew(t *testing.T) {
	want := piecesOf(example)
	one, _ := runes.Pieces(example)
	two, _ := runes.Pieces(example)
	for i := range one {
		one[i] = api.Piece{Rune: 'z', At: 9, Len: 9}
	}
	_ = append(one, one...)
	three, _ := runes.Pieces(example)
	if !slices.Equal(two, want) || !slices.Equal(three, want) {
		t.Error(two, three)
	}
}

func TestP17ArgumentsAreKeptAsTheyWere(t *testing.T) {
	l := []rune{'a', -1, 0xe9, 'x', 'y'}
	s := runes.Text(l[:3])
	if !slices.Equal(l, []rune{'a', -1, 0xe9, 'x', 'y'}) {
		t.Error(l)
	}
	l[0], l[2] = 'z', 'z'
	if s != "a\xef\xbf\xbd\xc3\xa9" {
		t.Errorf("%q", s)
	}
}

// checkPieces asks W1 of one text: all of it, piece by piece.
func checkPieces(t *testing.T, s string) {
	l, e := runes.Pieces(s)
	if e != api.OK {
		t.Fatalf("%q: %d", s, e)
	}
	var whole, parts strings.Builder
	end, broken := 0, -1
	for i, p := range l {
		if p.At != end || p.Len < 1 || p.At+p.Len > len(s) {
			t.Fatalf("%q: piece %d is at %d of %d", s, i, p.At, p.Len)
		}
		if p.Broken && (p.Len != 1 || p.Rune != api.Broken) {
			t.Fatalf("%q: piece %d: %v", s, i, p)
		}
		if p.Broken && broken < 0 {
			broken = p.At
		}
		end += p.Len
		whole.WriteString(s[p.At:end])
		part, _ := runes.Part(s, i, i+1)
		parts.WriteString(part)
	}
	if at, _ := runes.Broken(s); at != broken {
		t.Fatalf("%q: Broken %d", s, at)
	}
	if end != len(s) || whole.String() != s || parts.String() != s {
		t.Fatalf("%q: put back: %q, %q", s, whole.String(), parts.String())
	}
	for cut := range len(l) + 1 {
		one, _ := runes.Part(s, 0, cut)
		two, _ := runes.Part(s, cut, len(l))
		if one+two != s {
			t.Fatalf("%q cut at %d: %q, %q", s, cut, one, two)
		}
	}
}

// checkBack asks of one text what is promised of Back.
func checkBack(t *testing.T, s string) {
	b, e := runes.Back(s)
	again, f := runes.Back(b)
	if e != api.OK || f != api.OK || again != b {
		t.Fatalf("%q: %q, %q", s, b, again)
	}
	n, _ := runes.Len(s)
	m, _ := runes.Len(b)
	if at, _ := runes.Broken(b); n != m || at != -1 {
		t.Fatalf("%q: %d pieces, %d of Back; broken at %d", s, n, m, at)
	}
	var l []rune
	pieces, _ := runes.Pieces(s)
	for _, p := range pieces {
		l = append(l, p.Rune)
	}
	if b != runes.Text(l) {
		t.Fatalf("%q: %q", s, b)
	}
}

// checkQuote asks of one text that it is read as it was written.
func checkQuote(t *testing.T, s string) {
	q, e := runes.Quote(s)
	p, at, f := runes.Plain(q)
	if e != api.OK || f != api.OK || p != s || at != 0 {
		t.Fatalf("%q: %s: %q, %d, %d, %d", s, q, p, at, e, f)
	}
	for i := range len(q) {
		if q[i] < 32 || q[i] > 126 {
			t.Fatalf("%q: %q", s, q)
		}
	}
}

func TestP18WhateverBytes(t *testing.T) {
	for _, s := range texts() {
		checkPieces(t, s)
		checkBack(t, s)
		checkQuote(t, s)
	}
}

func TestP18AnyMixture(t *testing.T) {
	state := uint32(1)
	for range 2000 {
		b := make([]byte, 40)
		for i := range b {
			state = state*1664525 + 1013904223
			b[i] = byte(state >> 24)
		}
		checkPieces(t, string(b))
		checkBack(t, string(b))
		checkQuote(t, string(b))
	}
}

func TestP18LessIsARow(t *testing.T) {
	var l []string
	everyText([]byte{0, 'a', 'b', 0xc3, 0xa9, 0xe4, 0xb8, 0x80, 0xff}, 2, func(s string) { l = append(l, s) })
	l = append(l, tails...)
	n := len(l)
	less := make([]bool, n*n)
	for i, a := range l {
		for k, b := range l {
			less[i*n+k] = runes.Less(a, b)
		}
	}
	for i, a := range l {
		for k, b := range l {
			if a == b && less[i*n+k] || a != b && less[i*n+k] == less[k*n+i] {
				t.Fatalf("%q and %q: %v, %v", a, b, less[i*n+k], less[k*n+i])
			}
			for m, c := range l {
				if less[i*n+k] && less[k*n+m] && !less[i*n+m] {
					t.Fatalf("%q, %q, %q", a, b, c)
				}
			}
		}
	}
}
