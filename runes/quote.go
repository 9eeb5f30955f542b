package runes

import (
	"strconv"
	"unicode/utf8"

	"cognate/api"
)

const (
	sixteens = "0123456789abcdef"
	mostLong = 6 // sixteens of the greatest rune
)

// Quote writes a text that shows each rune by itself: broken bytes, too.
func Quote(s string) (string, api.Errno) {
	if len(s) > api.MaxText {
		return "", api.ErrText
	}
	return quoted(s), api.OK
}

// Plain reads what Quote writes; beside ErrPlace it tells where the text goes wrong.
func Plain(s string) (string, int, api.Errno) {
	if len(s) > api.MaxAnswer {
		return "", 0, api.ErrText
	}
	text, wrong := unquoted(s)
	if wrong >= 0 {
		return "", wrong, api.ErrPlace
	}
	if len(text) > api.MaxText {
		return "", 0, api.ErrText
	}
	// Bytes that were shown as broken ones may make a rune together, which would have been shown as one.
	if quoted(text) != s {
		return "", 0, api.ErrPlace
	}
	return text, 0, api.OK
}

func quoted(s string) string {
	out := make([]byte, 0, len(s)+2)
	out = append(out, '"')
	show := func(p api.Piece) { out = putShown(out, p, s[p.At]) }
	walk(s, show)
	return string(append(out, '"'))
}

// putShown puts what a piece shows behind out; first is its first byte, which a broken piece's rune does not tell.
func putShown(out []byte, p api.Piece, first byte) []byte {
	switch {
	case p.Broken:
		return append(out, '\\', 'x', sixteens[first>>4], sixteens[first&15])
	case p.Rune == '"' || p.Rune == '\\':
		return append(out, '\\', first)
	case showsItself(p.Rune):
		return append(out, first)
	}
	out = append(out, '\\', 'u')
	out = strconv.AppendInt(out, int64(p.Rune), 16)
	return append(out, ';')
}

// showsItself tells whether a rune is written without \u; a quote and a backslash are, too.
func showsItself(r rune) bool { return r >= ' ' && r <= '~' }

// unquoted is the text that s shows, and where the first wrong thing of s is; -1: there is none.
func unquoted(s string) (string, int) {
	if s == "" || s[0] != '"' {
		return "", 0
	}
	out := make([]byte, 0, len(s))
	at := 1
	for at < len(s) && s[at] != '"' {
		var n int
		out, n = putRead(out, s[at:])
		if n == 0 {
			return "", at
		}
		at += n
	}
	if at == len(s) {
		return "", at
	}
	if at+1 < len(s) {
		return "", at + 1
	}
	return string(out), -1
}

// putRead puts what the first thing of s (which is not empty) shows behind out, and tells how many bytes that thing has; 0: no piece shows it.
func putRead(out []byte, s string) ([]byte, int) {
	if s[0] != '\\' {
		if !showsItself(rune(s[0])) {
			return out, 0
		}
		return append(out, s[0]), 1
	}
	if len(s) == 1 {
		return out, 0
	}
	switch s[1] {
	case '"', '\\':
		return append(out, s[1]), 2
	case 'x':
		if b, ok := readByte(s[2:]); ok {
			return append(out, b), 4
		}
	case 'u':
		if r, n := readRune(s[2:]); n > 0 {
			return utf8.AppendRune(out, r), 2 + n
		}
	}
	return out, 0
}

// readByte reads the two sixteens of a byte that may be broken: one below 80 never is.
func readByte(s string) (byte, bool) {
	if len(s) < 2 {
		return 0, false
	}
	high, low := sixteen(s[0]), sixteen(s[1])
	if high < 8 || low < 0 {
		return 0, false
	}
	return byte(high<<4 | low), true
}

// readRune reads a rune's number in sixteens and the ; behind it, and tells how many bytes these are; 0: no piece is shown so.
func readRune(s string) (rune, int) {
	var r rune
	for i := 0; i < len(s) && i <= mostLong; i++ {
		if s[i] == ';' {
			ahead := i > 1 && s[0] == '0'
			if i == 0 || ahead || showsItself(r) || !utf8.ValidRune(r) {
				return 0, 0
			}
			return r, i + 1
		}
		d := sixteen(s[i])
		if d < 0 {
			return 0, 0
		}
		r = r<<4 | rune(d)
	}
	return 0, 0
}

// sixteen is the number that one of the sixteens stands for; -1: it is none of them.
func sixteen(b byte) int {
	switch {
	case b >= '0' && b <= '9':
		return int(b - '0')
	case b >= 'a' && b <= 'f':
		return int(b-'a') + 10
	}
	return -1
}
