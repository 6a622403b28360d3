// Package label: names, by their runes. Its chapter: shared/doc/01-label.md.
package label

import (
	"strconv"
	"strings"

	"scullery/api"
)

// prefix stands ahead of each number's digits.
const prefix = "0x"

// Good tells whether a rune may stand in a name.
func Good(r rune) bool {
	switch {
	case '0' <= r && r <= '9', 'A' <= r && r <= 'Z', 'a' <= r && r <= 'z', r == '-', r == '_':
		return true
	case 0xC0 <= r && r <= 0xFF:
		// Times and divided by stand amid the letters.
		return r != 0xD7 && r != 0xF7
	case 0x391 <= r && r <= 0x3A9:
		// Nothing stands here: the final sigma has no capital.
		return r != 0x3A2
	case 0x3B1 <= r && r <= 0x3C9:
		return true
	}
	return wide(r)
}

// wide tells whether a rune takes two columns.
func wide(r rune) bool {
	return 0x4E00 <= r && r <= 0x9FFF
}

// May tells whether a text may be a name.
func May(s string) bool {
	// Bytes that are no UTF-8 are ranged over as U+FFFD, which is not good.
	runes := 0
	for _, r := range s {
		runes++
		if runes > api.MaxRunes || !Good(r) {
			return false
		}
	}
	return runes > 0 && s[0] != '-' && s[len(s)-1] != '-'
}

// Columns tells how many columns a name takes: 0 of one that may not be.
func Columns(s string) int {
	if !May(s) {
		return 0
	}
	sum := 0
	for _, r := range s {
		sum += columnsOf(r)
	}
	return sum
}

// columnsOf tells how many columns a good rune takes.
func columnsOf(r rune) int {
	if wide(r) {
		return 2
	}
	return 1
}

// Clip answers the longest beginning of a name that takes at most so many columns.
func Clip(s string, columns int) string {
	if !May(s) {
		return ""
	}
	taken := 0
	for at, r := range s {
		taken += columnsOf(r)
		if taken > columns {
			return strings.Clone(s[:at])
		}
	}
	return strings.Clone(s)
}

// Fold answers a name with small letters.
func Fold(s string) string {
	if !May(s) {
		return ""
	}
	var folded strings.Builder
	for _, r := range s {
		folded.WriteRune(small(r))
	}
	return folded.String()
}

// small answers a good rune's small letter: itself, if it has none.
func small(r rune) rune {
	const finalSigma, sigma = 0x3C2, 0x3C3
	switch {
	case 'A' <= r && r <= 'Z', 0xC0 <= r && r <= 0xDE, 0x391 <= r && r <= 0x3A9:
		return r + 'a' - 'A'
	case r == finalSigma:
		return sigma
	}
	return r
}

// Same tells whether two texts are one name, but for great and small letters.
func Same(a string, b string) bool {
	return May(a) && May(b) && Fold(a) == Fold(b)
}

// Hex writes a number to base 16.
func Hex(n uint64) string {
	return prefix + strconv.FormatUint(n, 16)
}

// Number reads what Hex writes, and nothing else.
func Number(s string) (uint64, bool) {
	digits, found := strings.CutPrefix(s, prefix)
	if !found {
		return 0, false
	}
	n, err := strconv.ParseUint(digits, 16, 64)
	// Zeros ahead and great letters are read, too, but Hex does not write them.
	if err != nil || Hex(n) != s {
		return 0, false
	}
	return n, true
}
