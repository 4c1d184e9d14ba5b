// Package numtext formats and parses decimal integers and fixed-point numbers, and splits text into fields and lines.
package numtext

import (
	"strconv"
	"strings"

	"guerdon/api"
)

const (
	// maxMagnitude is the greatest absolute value that a parsed number may have.
	maxMagnitude = 1 << 62
	// maxPlaces is the greatest number of digits after the decimal point.
	maxPlaces = 9
)

// FormatInt returns n in decimal.
func FormatInt(n int) string {
	return strconv.Itoa(n)
}

// ParseInt parses a decimal integer.
func ParseInt(s string) (int, api.Errno) {
	digits, negative := cutMinus(s)
	if !isWholePart(digits) {
		return 0, api.ErrFormat
	}
	return signedNumber(digits, negative)
}

// FormatFixed returns n as a fixed-point number with the given number of decimal places.
func FormatFixed(n int, places int) string {
	places = clampPlaces(places)
	if places == 0 {
		return FormatInt(n)
	}
	// The sign is taken from the text, for the least int has no positive counterpart.
	digits, negative := cutMinus(FormatInt(n))
	if len(digits) <= places {
		digits = strings.Repeat("0", places+1-len(digits)) + digits
	}
	point := len(digits) - places
	text := digits[:point] + "." + digits[point:]
	if negative {
		return "-" + text
	}
	return text
}

// ParseFixed parses a fixed-point number with exactly the given number of decimal places.
func ParseFixed(s string, places int) (int, api.Errno) {
	places = clampPlaces(places)
	if places == 0 {
		return ParseInt(s)
	}
	unsigned, negative := cutMinus(s)
	whole, fraction, found := strings.Cut(unsigned, ".")
	if !found || !isWholePart(whole) || len(fraction) != places || !allDigits(fraction) {
		return 0, api.ErrFormat
	}
	return signedNumber(whole+fraction, negative)
}

// Fields splits a line at blanks and tabs.
func Fields(s string) []string {
	var fields []string
	start := 0
	for i, r := range s {
		if !isBlank(r) {
			continue
		}
		if start < i {
			fields = append(fields, s[start:i])
		}
		start = i + 1
	}
	if start < len(s) {
		fields = append(fields, s[start:])
	}
	return fields
}

// SplitLines splits a text into its lines.
func SplitLines(s string) ([]string, api.Errno) {
	if len(s) > api.MaxText {
		return nil, api.ErrTooLong
	}
	var lines []string
	start := 0
	for i, r := range s {
		if !isTextRune(r) {
			return nil, api.ErrFormat
		}
		if r == '\n' {
			lines = append(lines, s[start:i])
			start = i + 1
		}
	}
	if start < len(s) {
		return nil, api.ErrFormat
	}
	return lines, api.OK
}

func clampPlaces(places int) int {
	return min(max(places, 0), maxPlaces)
}

func cutMinus(s string) (rest string, negative bool) {
	return strings.CutPrefix(s, "-")
}

// isWholePart tells whether s is what stands before a decimal point: digits without a superfluous leading zero.
func isWholePart(s string) bool {
	if s == "" || s[0] == '0' && s != "0" {
		return false
	}
	return allDigits(s)
}

func allDigits(s string) bool {
	for _, r := range s {
		if r < '0' || r > '9' {
			return false
		}
	}
	return true
}

// signedNumber returns the number with the given digits and sign.
func signedNumber(digits string, negative bool) (int, api.Errno) {
	magnitude := 0
	for _, r := range digits {
		digit := int(r - '0')
		// Compared ahead of the multiplication, so that no number of digits wraps around.
		if magnitude > (maxMagnitude-digit)/10 {
			return 0, api.ErrRange
		}
		magnitude = magnitude*10 + digit
	}
	if !negative {
		return magnitude, api.OK
	}
	if magnitude == 0 {
		// A zero has no sign in the only text that stands for it.
		return 0, api.ErrFormat
	}
	return -magnitude, api.OK
}

func isBlank(r rune) bool {
	return r == ' ' || r == '\t'
}

// isTextRune tells whether r may stand in a text. Every byte from 128 on belongs to a rune above '~', whether or not the text is well-formed UTF-8, so that looking at the runes refuses just the bytes that are refused.
func isTextRune(r rune) bool {
	return r == '\t' || r == '\n' || r >= ' ' && r <= '~'
}
