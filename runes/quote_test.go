package runes_test

import (
	"regexp"
	"strconv"
	"strings"
	"testing"

	"cognate/api"
	"cognate/runes"
)

func TestP15Quote(t *testing.T) {
	for i, c := range []struct{ s, q string }{
		{"", `""`},
		{example, `"a\ue9;\xffb"`},
		{"a\"b\n", `"a\"b\ua;"`},
		{`\`, `"\\"`},
		{" ~\x7f\x1f\x00", `" ~\u7f;\u1f;\u0;"`},
		{"\x80\x9f\xc2\xa0", `"\x80\x9f\ua0;"`},
		{"\xc2\x80\xc3\xbf", `"\u80;\uff;"`},
		{"\xef\xbf\xbd", `"\ufffd;"`},
		{"\xf4\x8f\xbf\xbf\xf0\x90\x80\x80", `"\u10ffff;\u10000;"`},
		{"\xc3\xc3\xa9", `"\xc3\ue9;"`},
		{"\xed\xa0\x80", `"\xed\xa0\x80"`},
		{`\x41;`, `"\\x41;"`},
	} {
		if q, e := runes.Quote(c.s); q != c.q || e != api.OK {
			t.Errorf("%d: Quote: %s, %d", i, q, e)
		}
		if s, at, e := runes.Plain(c.q); s != c.s || at != 0 || e != api.OK {
			t.Errorf("%d: Plain: %q, %d, %d", i, s, at, e)
		}
	}
}

// shownAs is what a piece shows, as the chapter says it.
func shownAs(s string, p api.Piece) string {
	number := strconv.FormatInt(int64(p.Rune), 16)
	switch {
	case p.Broken:
		return `\x` + strconv.FormatInt(int64(s[p.At]), 16)
	case p.Rune == '"':
		return `\"`
	case p.Rune == '\\':
		return `\\`
	case p.Rune >= 32 && p.Rune <= 126:
		return s[p.At : p.At+1]
	}
	return `\u` + number + `;`
}

func TestP15QuoteShowsEachPiece(t *testing.T) {
	for _, s := range texts() {
		want := `"`
		for _, p := range piecesOf(s) {
			want += shownAs(s, p)
		}
		if q, e := runes.Quote(s); q != want+`"` || e != api.OK {
			t.Fatalf("%q: %s, %d", s, q, e)
		}
	}
}

func TestP15EveryRune(t *testing.T) {
	for r := rune(0); r <= 0x10ffff; r++ {
		if !isRune(r) {
			continue
		}
		s := bytesOf(r)
		q := `"` + shownAs(s, api.Piece{Rune: r, Len: len(s)}) + `"`
		if got, e := runes.Quote(s); got != q || e != api.OK {
			t.Fatalf("%x: Quote: %s, %d", r, got, e)
		}
		if got, at, e := runes.Plain(q); got != s || at != 0 || e != api.OK {
			t.Fatalf("%x: Plain: %q, %d, %d", r, got, at, e)
		}
	}
}

func TestP15EveryByte(t *testing.T) {
	for b := range 256 {
		two := strconv.FormatInt(int64(b), 16)
		two = strings.Repeat("0", 2-len(two)) + two
		want, wantAt, wantE := string([]byte{byte(b)}), 0, api.OK
		if b < 0x80 {
			want, wantAt, wantE = "", 1, api.ErrPlace
		}
		if s, at, e := runes.Plain(`"\x` + two + `"`); s != want || at != wantAt || e != wantE {
			t.Errorf("%x shown as broken: %q, %d, %d", b, s, at, e)
		}
		want, wantAt, wantE = string([]byte{byte(b)}), 0, api.OK
		switch {
		case b < 32 || b > 126:
			want, wantAt, wantE = "", 1, api.ErrPlace
		case b == '"': // it ends the text: the next one is too many
			want, wantAt, wantE = "", 2, api.ErrPlace
		case b == '\\': // it makes the next one a quote of the text
			want, wantAt, wantE = "", 3, api.ErrPlace
		}
		if s, at, e := runes.Plain(`"` + string([]byte{byte(b)}) + `"`); s != want || at != wantAt || e != wantE {
			t.Errorf("%x itself: %q, %d, %d", b, s, at, e)
		}
	}
}

func TestP15WrongPlaces(t *testing.T) {
	for _, c := range []struct {
		q  string
		at int
	}{
		{`"a\x41"`, 2}, {`"a`, 2}, {`a`, 0}, {`"\xc3\xa9"`, 0}, {`"\u0e9;"`, 1},
		{``, 0}, {`"`, 1}, {`""a`, 2}, {`"a""`, 3}, {`"a"b`, 3}, {`'a'`, 0}, {` "a"`, 0}, {`"a" `, 3},
		{`"\`, 1}, {`"a\`, 2}, {`"\"`, 3}, {`"\n"`, 1}, {`"\X80"`, 1}, {`"\U80;"`, 1},
		{`"\x`, 1}, {`"\x8`, 1}, {`"\x80`, 5}, {`"\x8"`, 1}, {`"\x7f"`, 1}, {`"\x00"`, 1}, {`"\xFF"`, 1}, {`"\xfF"`, 1}, {`"\xg0"`, 1}, {`"\x8g"`, 1},
		{`"\u`, 1}, {`"\u;"`, 1}, {`"\ue9"`, 1}, {`"\ue9`, 1}, {`"\uE9;"`, 1}, {`"\ug;"`, 1}, {`"\u+e9;"`, 1}, {`"\u-1;"`, 1}, {`"\u e9;"`, 1}, {`"\ue_9;"`, 1},
		{`"\u00;"`, 1}, {`"\u0a;"`, 1}, {`"\u000001;"`, 1}, {`"\u20;"`, 1}, {`"\u22;"`, 1}, {`"\u41;"`, 1}, {`"\u5c;"`, 1}, {`"\u7e;"`, 1},
		{`"\ud800;"`, 1}, {`"\udfff;"`, 1}, {`"\u110000;"`, 1}, {`"\uffffff;"`, 1}, {`"\u10000041;"`, 1}, {`"\u100000000;"`, 1}, {`"\u10000000000000041;"`, 1},
		{"\"\xc3\xa9\"", 1}, {"\"a\xff\"", 2}, {"\"\n\"", 1}, {"\"\x7f\"", 1}, {"\"\x00\"", 1}, {"\xef\xbb\xbf\"\"", 0},
		{`"\xc3\ue9;\x41"`, 10}, {`"\\\"\z"`, 5}, {`"\ue9;\`, 6},
		{`"\xe4\xb8\x80"`, 0}, {`"\xf0\x90\x80\x80"`, 0}, {`"a\xef\xbf\xbdb"`, 0}, {`"\xc2\x80\xff"`, 0},
	} {
		if s, at, e := runes.Plain(c.q); s != "" || at != c.at || e != api.ErrPlace {
			t.Errorf("%s: %q, %d, %d", c.q, s, at, e)
		}
	}
}

// A great number must not come round to a rune, however long it is.
func TestP15LongNumbers(t *testing.T) {
	for long := 7; long < 70; long++ {
		for _, end := range []string{"1", "a", "e9", "10ffff"} {
			q := `"\u1` + strings.Repeat("0", long-1-min(len(end), long-1)) + end + `;"`
			if s, at, e := runes.Plain(q); s != "" || at != 1 || e != api.ErrPlace {
				t.Errorf("%s: %q, %d, %d", q, s, at, e)
			}
		}
	}
	q := `"\u` + strings.Repeat("1", api.MaxAnswer-3)
	if s, at, e := runes.Plain(q); s != "" || at != 1 || e != api.ErrPlace {
		t.Error(s, at, e)
	}
}

func TestP15PlainLimits(t *testing.T) {
	x := func(n int) string { return strings.Repeat("x", n) }
	for i, c := range []struct {
		q  string
		at int
		e  api.Errno
	}{
		{`"` + x(api.MaxAnswer-1), api.MaxAnswer, api.ErrPlace}, // just not too long
		{`"` + x(api.MaxAnswer), 0, api.ErrText},
		{x(api.MaxAnswer), 0, api.ErrPlace},
		{x(api.MaxAnswer + 1), 0, api.ErrText},
		{`"` + x(api.MaxText+1) + `"`, 0, api.ErrText},
		{`"` + strings.Repeat(`\u10ffff;`, api.MaxText/4) + `x"`, 0, api.ErrText},
		{`"` + x(api.MaxText+1), api.MaxText + 2, api.ErrPlace},                     // a wrong thing is told ahead of the length
		{`"` + x(api.MaxText+1) + `\x41"`, api.MaxText + 2, api.ErrPlace},           // and this one
		{`"` + x(api.MaxText+1) + `"x`, api.MaxText + 3, api.ErrPlace},              // and this one
		{`"` + x(api.MaxText-1) + `\xc3\xa9"`, 0, api.ErrText},                      // the length ahead of what Quote says
		{`"` + x(api.MaxText-2) + `\xc3\xa9"`, 0, api.ErrPlace},                     // just not too long
		{`"` + strings.Repeat(`\xc3\xa9`, api.MaxAnswer/8-1) + `"`, 0, api.ErrText}, // broken bytes, too many
	} {
		if s, at, e := runes.Plain(c.q); s != "" || at != c.at || e != c.e {
			t.Errorf("%d: %d bytes, %d, %d", i, len(s), at, e)
		}
	}
	for _, s := range []string{x(api.MaxText), strings.Repeat("\xf4\x8f\xbf\xbf", api.MaxText/4)} {
		q, _ := runes.Quote(s)
		if p, at, e := runes.Plain(q); p != s || at != 0 || e != api.OK {
			t.Error(len(p), at, e)
		}
	}
}

// thing is what pieces show, at the beginning of a text.
var thing = regexp.MustCompile(`^(?:[ !#-\[\]-~]|\\["\\]|\\x[89a-f][0-9a-f]|\\u(?:0|[1-9a-f][0-9a-f]{0,5});)`)

// wrongPlace is where a quoted text goes wrong at first, as the chapter says it; -1: nowhere.
func wrongPlace(q string) int {
	if !strings.HasPrefix(q, `"`) {
		return 0
	}
	at := 1
	for at < len(q) && q[at] != '"' {
		m := thing.FindString(q[at:])
		if strings.HasPrefix(m, `\u`) {
			n, _ := strconv.ParseInt(m[2:len(m)-1], 16, 32)
			if !isRune(rune(n)) || n >= 32 && n <= 126 {
				m = ""
			}
		}
		if m == "" {
			return at
		}
		at += len(m)
	}
	if at < len(q)-1 {
		return at + 1
	}
	if at == len(q) {
		return at
	}
	return -1
}

func TestP15WrongPlacesOfAllShortOnes(t *testing.T) {
	letters := []byte{'"', '\\', 'x', 'u', ';', '0', '2', '8', 'a', 'f', 'F', 0x80}
	everyText(letters, 5, func(s string) {
		for _, q := range []string{s, `"` + s, `"` + s + `"`} {
			wrong := wrongPlace(q)
			got, at, e := runes.Plain(q)
			if wrong < 0 && at == 0 && e == api.OK {
				if back, _ := runes.Quote(got); back != q {
					t.Fatalf("%s: taken, written as %s", q, back)
				}
				continue
			}
			if got != "" || at != wrong || e != api.ErrPlace {
				t.Fatalf("%s: %q, %d, %d; wrong at %d", q, got, at, e, wrong)
			}
		}
	})
}
