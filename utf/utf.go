// Package utf: characters as bytes: see doc/01-utf.md.
package utf

import (
	"math/bits"
	"strings"
	"unicode/utf8"

	"fairhand/api"
)

// isCharacter asks the whole number: a rune has 32 bits only, so that some
// numbers that are no characters would look like one as a rune.
func isCharacter(c int) bool {
	return 0 <= c && c <= 0x10ffff && (c < 0xd800 || 0xdfff < c)
}

// Put: P3.
func Put(c int) (string, api.Errno) {
	if !isCharacter(c) {
		return "", api.ErrArg
	}
	return string(rune(c)), api.OK
}

// Get: P4. It goes byte by byte, since which error is told hangs on which byte
// is looked at first; the library tells one error for all of them.
func Get(s string) (int, int, api.Errno) {
	if s == "" {
		return 0, 0, api.ErrShort
	}
	ones := bits.LeadingZeros8(^s[0])
	if ones == 0 {
		return int(s[0]), 1, api.OK
	}
	if ones == 1 || ones > utf8.UTFMax {
		return 0, 0, api.ErrForm
	}
	c := int(s[0]) & (0x7f >> ones)
	for at := 1; at < ones; at++ {
		if at == len(s) {
			return 0, 0, api.ErrShort
		}
		if s[at]&0xc0 != 0x80 {
			return 0, 0, api.ErrForm
		}
		c = c<<6 | int(s[at]&0x3f)
	}
	// RuneLen is -1 of what is no character, so this refuses these as well.
	if utf8.RuneLen(rune(c)) != ones {
		return 0, 0, api.ErrForm
	}
	return c, ones, api.OK
}

// All: P5.
func All(s string) ([]int, int, api.Errno) {
	var l []int
	at := 0
	for at < len(s) {
		c, n, err := Get(s[at:])
		if err != api.OK {
			return nil, at, err
		}
		l = append(l, c)
		at += n
	}
	return l, at, api.OK
}

// Text: P5.
func Text(l []int) (string, api.Errno) {
	var b strings.Builder
	for _, c := range l {
		s, err := Put(c)
		if err != api.OK {
			return "", err
		}
		b.WriteString(s)
	}
	return b.String(), api.OK
}

// Count: P6. Ranging gives Bad both of the character Bad and of bytes that are
// no character; only Get tells which of them it was, and its error.
func Count(s string) (int, api.Errno) {
	n := 0
	for at, c := range s {
		if c == api.Bad {
			if _, _, err := Get(s[at:]); err != api.OK {
				return 0, err
			}
		}
		n++
	}
	return n, api.OK
}
