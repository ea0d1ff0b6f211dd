package prim

import (
	"slices"
	"strings"
	"unicode/utf8"

	"charter/api"
)

const (
	markUtf8  = 0x0c
	markPlain = 0x13
	markAscii = 0x16
	// What a plain text may have beside letters and digits.
	plainSigns = " '()+,-./:=?"
)

// Text tells whether a body is a text: P8.5.
func Text(mark byte, body []byte) error {
	var is bool
	switch mark {
	case markUtf8:
		is = utf8.Valid(body)
	case markPlain:
		is = allOf(body, isPlain)
	case markAscii:
		is = allOf(body, isAscii)
	default:
		return api.ErrArg
	}
	if !is {
		return api.ErrForm
	}
	return nil
}

func allOf(body []byte, is func(byte) bool) bool {
	return !slices.ContainsFunc(body, func(b byte) bool { return !is(b) })
}

func isAscii(b byte) bool { return b < utf8.RuneSelf }

func isPlain(b byte) bool {
	switch {
	case 'a' <= b && b <= 'z', 'A' <= b && b <= 'Z', '0' <= b && b <= '9':
		return true
	}
	return strings.IndexByte(plainSigns, b) >= 0
}
