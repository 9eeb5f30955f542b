package runes_test

import (
	"strings"

	"cognate/api"
)

// example is the text B of the chapter's examples: a, e with an accent, a broken byte, b.
const example = "a\xc3\xa9\xffb"

// edges are bytes around the borders of well-formed UTF-8, and those that quoting cares for.
var edges = []byte{0, 31, ' ', '"', '\\', 'a', '~', 0x7f, 0x80, 0x8f, 0x90, 0x9f, 0xa0, 0xbf, 0xc0, 0xc1, 0xc2, 0xc3, 0xdf, 0xe0, 0xe4, 0xed, 0xef, 0xf0, 0xf4, 0xf5, 0xff}

// tails are texts of several bytes that are or are not well-formed, each by little.
var tails = []string{
	"\xc2\x80", "\xdf\xbf", "\xe0\xa0\x80", "\xe0\x9f\xbf", "\xed\x9f\xbf", "\xed\xa0\x80", "\xed\xbf\xbf", "\xee\x80\x80",
	"\xef\xbf\xbd", "\xef\xbf\xbf", "\xf0\x90\x80\x80", "\xf0\x8f\xbf\xbf", "\xf4\x8f\xbf\xbf", "\xf4\x90\x80\x80",
	"\xf0\x90\x80", "\xf8\x88\x80\x80\x80", "\xe4\xb8", "\xe4\xb8\xe4\xb8\x80", "\xc3\xc3\xa9", "\xef\xbf\xbd\xef\xbf",
}

// everyText hands on every text of at most long of these bytes.
func everyText(letters []byte, long int, see func(s string)) {
	var grow func(ahead []byte)
	grow = func(ahead []byte) {
		see(string(ahead))
		if len(ahead) == long {
			return
		}
		for _, b := range letters {
			grow(append(ahead[:len(ahead):len(ahead)], b))
		}
	}
	grow(nil)
}

// texts are the texts on which all that follows is asked: short ones of all kinds, and mixtures.
func texts() []string {
	var l []string
	everyText(edges, 2, func(s string) { l = append(l, s) })
	everyText([]byte{'a', 0xe4, 0xb8, 0x80, 0xf0, 0x9f}, 5, func(s string) { l = append(l, s) })
	for _, x := range tails {
		l = append(l, x)
		for _, y := range tails {
			l = append(l, x+y, x+"a"+y, "\xff"+x+"\x80"+y)
		}
	}
	return append(l, example, strings.Repeat(example, 50))
}

// firstRune decodes by the table of UTF-8 alone; size 0: no rune's well-formed bytes begin s.
func firstRune(s string) (r rune, size int) {
	least := []rune{0, 0x80, 0x800, 0x10000}
	marks := []struct{ mask, is byte }{{0x80, 0}, {0xe0, 0xc0}, {0xf0, 0xe0}, {0xf8, 0xf0}}
	for more, m := range marks {
		if s[0]&m.mask != m.is || len(s) <= more {
			continue
		}
		r = rune(s[0] &^ m.mask)
		for _, b := range []byte(s[1 : more+1]) {
			if b&0xc0 != 0x80 {
				return 0, 0
			}
			r = r<<6 | rune(b&0x3f)
		}
		if r < least[more] || !isRune(r) {
			return 0, 0
		}
		return r, more + 1
	}
	return 0, 0
}

func isRune(r rune) bool { return r >= 0 && r <= 0x10ffff && (r < 0xd800 || r > 0xdfff) }

// piecesOf is what the chapter says that a text's pieces are.
func piecesOf(s string) []api.Piece {
	var l []api.Piece
	for at := 0; at < len(s); {
		p := api.Piece{Rune: 0xfffd, At: at, Len: 1, Broken: true}
		if r, size := firstRune(s[at:]); size > 0 {
			p = api.Piece{Rune: r, At: at, Len: size}
		}
		l = append(l, p)
		at += p.Len
	}
	return l
}

// bytesOf is the UTF-8 of a rune, by its table.
func bytesOf(r rune) string {
	if !isRune(r) {
		r = 0xfffd
	}
	switch {
	case r < 0x80:
		return string([]byte{byte(r)})
	case r < 0x800:
		return string([]byte{0xc0 | byte(r>>6), 0x80 | byte(r&0x3f)})
	case r < 0x10000:
		return string([]byte{0xe0 | byte(r>>12), 0x80 | byte(r>>6&0x3f), 0x80 | byte(r&0x3f)})
	}
	return string([]byte{0xf0 | byte(r>>18), 0x80 | byte(r>>12&0x3f), 0x80 | byte(r>>6&0x3f), 0x80 | byte(r&0x3f)})
}
