package feature

import (
	"strings"

	"cognate/api"
)

// Bit is a feature's bit.
func Bit(a api.Alphabet, name string) (uint32, api.Errno) {
	if e := Check(a); e != api.OK {
		return 0, e
	}
	bit := bitOf(a, name)
	if bit == 0 {
		return 0, api.ErrNone
	}
	return bit, api.OK
}

// Text writes a class: +voiced-nasal.
func Text(a api.Alphabet, plus, minus uint32) (string, api.Errno) {
	if e := alphabetAndClass(a, plus, minus); e != api.OK {
		return "", e
	}
	var out strings.Builder
	for i, name := range a.Features {
		bit := uint32(1) << i
		switch {
		case plus&bit != 0:
			out.WriteString("+" + name)
		case minus&bit != 0:
			out.WriteString("-" + name)
		}
	}
	return out.String(), api.OK
}

// Parse reads a class from a text, its features in any order; at is where what is none begins.
func Parse(a api.Alphabet, s string) (plus, minus uint32, at int, e api.Errno) {
	if e := Check(a); e != api.OK {
		return 0, 0, 0, e
	}
	if len(s) > api.MaxText {
		return 0, 0, 0, api.ErrText
	}
	signs := map[rune]int{'+': 0, '-': 1}
	var masks [2]uint32
	for at < len(s) {
		end := nameEnd(s, at+1)
		side, signed := signs[rune(s[at])]
		bit := bitOf(a, s[at+1:end])
		if !signed || bit == 0 || (masks[0]|masks[1])&bit != 0 {
			return 0, 0, at, api.ErrFeature
		}
		masks[side] |= bit
		at = end
	}
	return masks[0], masks[1], 0, api.OK
}

// bitOf is the bit of the feature of that name, in an alphabet that may be; 0: there is none.
func bitOf(a api.Alphabet, name string) uint32 {
	for i, known := range a.Features {
		if known == name {
			return 1 << i
		}
	}
	return 0
}
