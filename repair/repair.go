// Package repair makes text of bytes, and knows its runes.
package repair

import (
	"strings"
	"unicode/utf8"
)

// Text tells bytes as text.
func Text(b string) string {
	var out strings.Builder
	out.Grow(len(b))
	var last rune
	for _, r := range b {
		switch {
		case r == '\n' && last == '\r':
			// The CR ahead has told this end of a line already.
		case r == '\r':
			out.WriteByte('\n')
		case r == 0:
			out.WriteRune(utf8.RuneError)
		default:
			out.WriteRune(r)
		}
		last = r
	}
	return out.String()
}

// Space tells whether a rune is a blank.
func Space(r rune) bool {
	switch r {
	case 9, 10, 12, 13, 32, 160, 5760, 8239, 8287, 12288:
		return true
	}
	return within(r, 8192, 8202)
}

// Punct tells whether a rune is punctuation.
func Punct(r rune) bool {
	if within(r, 0, 127) {
		return Ascii(byte(r))
	}
	switch r {
	case 161, 167, 171, 182, 183, 187, 191, 8364:
		return true
	}
	return within(r, 8208, 8231) || within(r, 8240, 8259) || within(r, 12289, 12305)
}

// Ascii tells whether a byte is a sign.
func Ascii(b byte) bool {
	return within(b, 33, 47) || within(b, 58, 64) || within(b, 91, 96) || within(b, 123, 126)
}

// Fold tells a text as names are compared.
func Fold(s string) string {
	var out strings.Builder
	gap := false
	for i, r := range s {
		if Space(r) {
			gap = true
			continue
		}
		if gap && out.Len() > 0 {
			out.WriteByte(' ')
		}
		gap = false
		if strayByte(s[i:], r) {
			// WriteRune would put three other bytes in its place.
			out.WriteByte(s[i])
		} else {
			out.WriteRune(small(r))
		}
	}
	return out.String()
}

// strayByte tells whether s, at which a range over it found r, begins with a byte that is no part of a rune.
func strayByte(s string, r rune) bool {
	return r == utf8.RuneError && !strings.HasPrefix(s, string(utf8.RuneError))
}

// small tells the small letter of a great one.
func small(r rune) rune {
	if within(r, 'A', 'Z') || within(r, 192, 222) && r != 215 {
		return r + 32
	}
	return r
}

func within[T byte | rune](x, from, to T) bool {
	return from <= x && x <= to
}
