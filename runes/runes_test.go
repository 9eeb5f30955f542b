package runes_test

import (
	"math"
	"slices"
	"strings"
	"testing"

	"cognate/api"
	"cognate/runes"
)

func TestP11TooLong(t *testing.T) {
	for _, unit := range []string{"x", "\xff", "\x1f", "\""} {
		s := strings.Repeat(unit, api.MaxText+1)
		if l, e := runes.Pieces(s); len(l) != 0 || e != api.ErrText {
			t.Errorf("%q: Pieces: %d pieces, %d", unit, len(l), e)
		}
		if n, e := runes.Len(s); n != 0 || e != api.ErrText {
			t.Errorf("%q: Len: %d, %d", unit, n, e)
		}
		if at, e := runes.Broken(s); at != 0 || e != api.ErrText {
			t.Errorf("%q: Broken: %d, %d", unit, at, e)
		}
		for _, c := range [][2]int{{0, 1}, {-1, 0}, {2, 1}, {0, api.MaxText + 2}} {
			if p, e := runes.Part(s, c[0], c[1]); p != "" || e != api.ErrText {
				t.Errorf("%q: Part %v: %d bytes, %d", unit, c, len(p), e)
			}
		}
		if b, e := runes.Back(s); b != "" || e != api.ErrText {
			t.Errorf("%q: Back: %d bytes, %d", unit, len(b), e)
		}
		if q, e := runes.Quote(s); q != "" || e != api.ErrText {
			t.Errorf("%q: Quote: %d bytes, %d", unit, len(q), e)
		}
	}
}

func TestP11JustShortEnough(t *testing.T) {
	for _, c := range []struct {
		unit, mended, shown string
		broken              int
	}{{"x", "x", "x", -1}, {"\xff", "\xef\xbf\xbd", `\xff`, 0}, {"\x1f", "\x1f", `\u1f;`, -1}, {"\"", "\"", `\"`, -1}} {
		s := strings.Repeat(c.unit, api.MaxText)
		if l, e := runes.Pieces(s); len(l) != api.MaxText || e != api.OK {
			t.Errorf("%q: Pieces: %d pieces, %d", c.unit, len(l), e)
		}
		if n, e := runes.Len(s); n != api.MaxText || e != api.OK {
			t.Errorf("%q: Len: %d, %d", c.unit, n, e)
		}
		if at, e := runes.Broken(s); at != c.broken || e != api.OK {
			t.Errorf("%q: Broken: %d, %d", c.unit, at, e)
		}
		if p, e := runes.Part(s, 0, api.MaxText); p != s || e != api.OK {
			t.Errorf("%q: Part: %d bytes, %d", c.unit, len(p), e)
		}
		if b, e := runes.Back(s); b != strings.Repeat(c.mended, api.MaxText) || e != api.OK {
			t.Errorf("%q: Back: %d bytes, %d", c.unit, len(b), e)
		}
		q, e := runes.Quote(s)
		if q != "\""+strings.Repeat(c.shown, api.MaxText)+"\"" || e != api.OK {
			t.Errorf("%q: Quote: %d bytes, %d", c.unit, len(q), e)
		}
		if p, at, e := runes.Plain(q); p != s || at != 0 || e != api.OK {
			t.Errorf("%q: Plain: %d bytes, %d, %d", c.unit, len(p), at, e)
		}
	}
}

// The limit is one of bytes: fewer pieces than bytes do not help.
func TestP11CountsBytes(t *testing.T) {
	s := strings.Repeat("\xc3\xa9", api.MaxText/2)
	if n, e := runes.Len(s); n != api.MaxText/2 || e != api.OK {
		t.Error(n, e)
	}
	if n, e := runes.Len(s + "a"); n != 0 || e != api.ErrText {
		t.Error(n, e)
	}
}

func TestP11TextAndLessHaveNoLimit(t *testing.T) {
	l := make([]rune, api.MaxText+1)
	for i := range l {
		l[i] = 0x4e00
	}
	if s := runes.Text(l); s != strings.Repeat("\xe4\xb8\x80", api.MaxText+1) {
		t.Error(len(s))
	}
	long := strings.Repeat("x", 2*api.MaxText)
	if !runes.Less(long+"a", long+"b") || runes.Less(long+"b", long+"a") || !runes.Less(long, long+"a") || runes.Less(long, long) {
		t.Error("long texts are not put in a row")
	}
}

func TestP12Examples(t *testing.T) {
	l, e := runes.Pieces(example)
	want := []api.Piece{{Rune: 'a', Len: 1}, {Rune: 0xe9, At: 1, Len: 2}, {Rune: 0xfffd, At: 3, Len: 1, Broken: true}, {Rune: 'b', At: 4, Len: 1}}
	if !slices.Equal(l, want) || e != api.OK {
		t.Error(l, e)
	}
	if n, e := runes.Len(example); n != 4 || e != api.OK {
		t.Error(n, e)
	}
	if n, e := runes.Len(""); n != 0 || e != api.OK {
		t.Error(n, e)
	}
	if at, e := runes.Broken(example); at != 3 || e != api.OK {
		t.Error(at, e)
	}
	if at, e := runes.Broken("a"); at != -1 || e != api.OK {
		t.Error(at, e)
	}
	if l, e := runes.Pieces(""); len(l) != 0 || e != api.OK {
		t.Error(l, e)
	}
}

// U+FFFD in three bytes is a rune like any other.
func TestP12BrokenIsNotTheRune(t *testing.T) {
	l, e := runes.Pieces("\xef\xbf\xbd\xef\xbf")
	want := []api.Piece{{Rune: 0xfffd, Len: 3}, {Rune: 0xfffd, At: 3, Len: 1, Broken: true}, {Rune: 0xfffd, At: 4, Len: 1, Broken: true}}
	if !slices.Equal(l, want) || e != api.OK {
		t.Error(l, e)
	}
	if at, e := runes.Broken("\xef\xbf\xbd"); at != -1 || e != api.OK {
		t.Error(at, e)
	}
	if at, e := runes.Broken("\xef\xbf\xbd\xff\xff"); at != 3 || e != api.OK {
		t.Error(at, e)
	}
}

func TestP12AsTheTableSays(t *testing.T) {
	for _, s := range texts() {
		want := piecesOf(s)
		l, e := runes.Pieces(s)
		if !slices.Equal(l, want) || e != api.OK {
			t.Fatalf("%q: Pieces: %v, %d", s, l, e)
		}
		if n, e := runes.Len(s); n != len(want) || e != api.OK {
			t.Fatalf("%q: Len: %d, %d", s, n, e)
		}
		first := slices.IndexFunc(want, func(p api.Piece) bool { return p.Broken })
		if first >= 0 {
			first = want[first].At
		}
		if at, e := runes.Broken(s); at != first || e != api.OK {
			t.Fatalf("%q: Broken: %d, %d", s, at, e)
		}
	}
}

func TestP12EveryRune(t *testing.T) {
	for r := rune(0); r <= 0x10ffff; r++ {
		if !isRune(r) {
			continue
		}
		s := bytesOf(r)
		l, e := runes.Pieces(s)
		if len(l) != 1 || l[0] != (api.Piece{Rune: r, Len: len(s)}) || e != api.OK {
			t.Fatalf("%x: %v, %d", r, l, e)
		}
	}
}

func TestP13Text(t *testing.T) {
	for i, c := range []struct {
		l []rune
		s string
	}{
		{nil, ""},
		{[]rune{0x61, 0xe9}, "a\xc3\xa9"},
		{[]rune{0xd800, 0x62}, "\xef\xbf\xbdb"},
		{[]rune{-1}, "\xef\xbf\xbd"},
		{[]rune{0xd7ff, 0xd800, 0xdfff, 0xe000}, "\xed\x9f\xbf\xef\xbf\xbd\xef\xbf\xbd\xee\x80\x80"},
		{[]rune{0x10ffff, 0x110000}, "\xf4\x8f\xbf\xbf\xef\xbf\xbd"},
		{[]rune{math.MinInt32, 0, math.MaxInt32}, "\xef\xbf\xbd\x00\xef\xbf\xbd"},
	} {
		if s := runes.Text(c.l); s != c.s {
			t.Errorf("%d: %q", i, s)
		}
	}
	for r := rune(-2); r <= 0x110001; r++ {
		if s := runes.Text([]rune{r}); s != bytesOf(r) {
			t.Fatalf("%x: %q", r, s)
		}
	}
}

func TestP13Back(t *testing.T) {
	for i, c := range []struct{ s, back string }{
		{"", ""},
		{"abc", "abc"},
		{example, "a\xc3\xa9\xef\xbf\xbdb"},
		{"\xff\xff", "\xef\xbf\xbd\xef\xbf\xbd"},
		{"\xef\xbf\xbd", "\xef\xbf\xbd"},
		{"\xe4\xb8", "\xef\xbf\xbd\xef\xbf\xbd"},
		{"\xed\xa0\x80", "\xef\xbf\xbd\xef\xbf\xbd\xef\xbf\xbd"},
		{"\x00\xf4\x8f\xbf\xbf", "\x00\xf4\x8f\xbf\xbf"},
	} {
		if s, e := runes.Back(c.s); s != c.back || e != api.OK {
			t.Errorf("%d: %q, %d", i, s, e)
		}
	}
	for _, s := range texts() {
		want := ""
		for _, p := range piecesOf(s) {
			want += bytesOf(p.Rune)
		}
		if b, e := runes.Back(s); b != want || e != api.OK {
			t.Fatalf("%q: %q, %d", s, b, e)
		}
	}
}

func TestP14Part(t *testing.T) {
	for i, c := range []struct {
		s        string
		from, to int
		part     string
		e        api.Errno
	}{
		{example, 1, 3, "\xc3\xa9\xff", api.OK},
		{example, 2, 2, "", api.OK},
		{example, 3, 2, "", api.ErrPlace},
		{example, 0, 5, "", api.ErrPlace},
		{example, 0, 4, example, api.OK},
		{example, 4, 4, "", api.OK},
		{example, 5, 5, "", api.ErrPlace},
		{example, 4, 5, "", api.ErrPlace},
		{example, -1, 2, "", api.ErrPlace},
		{example, -1, -1, "", api.ErrPlace},
		{example, 0, -1, "", api.ErrPlace},
		{example, math.MinInt, math.MaxInt, "", api.ErrPlace},
		{example, math.MaxInt, math.MinInt, "", api.ErrPlace},
		{"", 0, 0, "", api.OK},
		{"", 0, 1, "", api.ErrPlace},
	} {
		if s, e := runes.Part(c.s, c.from, c.to); s != c.part || e != c.e {
			t.Errorf("%d: %q, %d", i, s, e)
		}
	}
}

func TestP14EveryPart(t *testing.T) {
	for _, s := range append(tails, example, "", "\xff\xc3\xa9\xe4\xb8\x80\xe4\xb8a") {
		l := piecesOf(s)
		ends := []int{0}
		for _, p := range l {
			ends = append(ends, p.At+p.Len)
		}
		for from := -1; from <= len(l)+1; from++ {
			for to := -1; to <= len(l)+1; to++ {
				want, wantE := "", api.ErrPlace
				if 0 <= from && from <= to && to <= len(l) {
					want, wantE = s[ends[from]:ends[to]], api.OK
				}
				if p, e := runes.Part(s, from, to); p != want || e != wantE {
					t.Errorf("%q from %d to %d: %q, %d", s, from, to, p, e)
				}
			}
		}
	}
}

func TestP16Examples(t *testing.T) {
	for i, c := range []struct {
		a, b string
		is   bool
	}{
		{"a", "b", true},
		{"a", "ab", true},
		{"\xf4\x8f\xbf\xbf", "\x80", true},
		{"b", "a", false},
		{"", "", false},
		{"", "\x00", true},
		{"\x00", "", false},
		{"ab", "a", false},
		{"a", "a", false},
		{"b", "ab", false},
		{"\xef\xbf\xbd", "\xff", true},
		{"\xff", "\xef\xbf\xbd", false},
		{"\x80", "\xff", true},
		{"\xff", "\x80", false},
		{"\xff", "\xff", false},
		{"\xff", "\xffa", true},
		{"\xee\x80\x80", "\xf0\x90\x80\x80", true},
		{"\xe4\xb8\x80", "\xe4\xb8", true}, // bytes alike, pieces not: a rune, and broken bytes
		{"\xe4", "\xe4\xb8\x80", false},
		{"\xe4\xb8", "\xe4\xb8\x80", false},
		{"a\xe4\xb8\x80", "a\xe4", true},
		{"a\xe4\xb8\x80a", "a\xe4\xb8\x80b", true},
	} {
		if is := runes.Less(c.a, c.b); is != c.is {
			t.Errorf("%d: Less(%q, %q): %v", i, c.a, c.b, is)
		}
	}
}

// aheadOf is Less as the chapter says it, of texts cut into pieces.
func aheadOf(a, b string) bool {
	numbers := func(s string) []int {
		var l []int
		for _, p := range piecesOf(s) {
			n := int(p.Rune)
			if p.Broken {
				n = 1<<24 + int(s[p.At])
			}
			l = append(l, n)
		}
		return l
	}
	return slices.Compare(numbers(a), numbers(b)) < 0
}

func TestP16AsTheChapterSays(t *testing.T) {
	var l []string
	everyText(edges, 1, func(s string) { l = append(l, s) })
	everyText([]byte{'a', 0xe4, 0xb8, 0xff}, 4, func(s string) { l = append(l, s) })
	l = append(l, tails...)
	for _, a := range l {
		for _, b := range l {
			if is := runes.Less(a, b); is != aheadOf(a, b) {
				t.Fatalf("Less(%q, %q): %v", a, b, is)
			}
		}
	}
}
