package numtext

import (
	"fmt"
	"math"
	"math/big"
	"regexp"
	"slices"
	"strings"
	"testing"

	"guerdon/api"
)

const bound = 1 << 62

var numberForm = regexp.MustCompile(`\A-?[0-9]+(\.[0-9]+)?\z`)

// sampleInts returns small integers, neighbours of powers of ten and of two, and the edges of int.
func sampleInts() []int {
	var list []int
	for n := -1200; n <= 1200; n++ {
		list = append(list, n)
	}
	power := 1
	for range 18 {
		power *= 10
		for _, n := range []int{power - 1, power, power + 1, 7*power + 3} {
			list = append(list, n, -n)
		}
	}
	for shift := range 62 {
		n := 1<<shift + 1
		list = append(list, n, -n, n-2, 2-n)
	}
	return append(list, bound-1, bound, bound+1, 1-bound, -bound, -bound-1,
		math.MaxInt-1, math.MaxInt, math.MinInt, math.MinInt+1)
}

// wordsOf returns every text of at most length letters of the alphabet.
func wordsOf(alphabet string, length int) []string {
	words := []string{""}
	last := words
	for range length {
		var longer []string
		for _, word := range last {
			for _, letter := range []byte(alphabet) {
				longer = append(longer, word+string(rune(letter)))
			}
		}
		words = append(words, longer...)
		last = longer
	}
	return words
}

func inBounds(n *big.Int) bool {
	return n.CmpAbs(big.NewInt(bound)) <= 0
}

// fixedReference formats n by the words of P1.3, on integers of any size.
func fixedReference(n *big.Int, places int) string {
	if places < 1 {
		return n.String()
	}
	places = min(places, 9)
	unit := new(big.Int).Exp(big.NewInt(10), big.NewInt(int64(places)), nil)
	whole, part := new(big.Int).QuoRem(new(big.Int).Abs(n), unit, new(big.Int))
	sign := ""
	if n.Sign() < 0 {
		sign = "-"
	}
	return fmt.Sprintf("%s%s.%0*s", sign, whole, places, part)
}

// parseReference parses s by the words of P1.2 and P1.4: whatever formats to s again is well-formed.
func parseReference(s string, places int) (int, api.Errno) {
	if !numberForm.MatchString(s) {
		return 0, api.ErrFormat
	}
	n, ok := new(big.Int).SetString(strings.Replace(s, ".", "", 1), 10)
	if !ok || fixedReference(n, places) != s {
		return 0, api.ErrFormat
	}
	if !inBounds(n) {
		return 0, api.ErrRange
	}
	return int(n.Int64()), api.OK
}

func checkParseInt(t *testing.T, s string, want int, code api.Errno) {
	t.Helper()
	if n, e := ParseInt(s); n != want || e != code {
		t.Errorf("ParseInt(%q) = %d, %d, not %d, %d", s, n, e, want, code)
	}
}

func checkParseFixed(t *testing.T, s string, places, want int, code api.Errno) {
	t.Helper()
	if n, e := ParseFixed(s, places); n != want || e != code {
		t.Errorf("ParseFixed(%q, %d) = %d, %d, not %d, %d", s, places, n, e, want, code)
	}
}

// P1.1
func TestFormatInt(t *testing.T) {
	for _, x := range []struct {
		n int
		s string
	}{
		{0, "0"}, {7, "7"}, {-5, "-5"}, {10, "10"}, {-100, "-100"}, {1234567890, "1234567890"},
		{bound, "4611686018427387904"}, {-bound, "-4611686018427387904"},
		{bound + 1, "4611686018427387905"}, {-bound - 1, "-4611686018427387905"},
		{math.MaxInt, "9223372036854775807"}, {math.MinInt, "-9223372036854775808"},
	} {
		if s := FormatInt(x.n); s != x.s {
			t.Errorf("FormatInt(%d) = %q, not %q", x.n, s, x.s)
		}
	}
	for _, n := range sampleInts() {
		if s, want := FormatInt(n), big.NewInt(int64(n)).String(); s != want {
			t.Errorf("FormatInt(%d) = %q", n, s)
		}
	}
}

// P1.2: well-formed integers, and the bounds.
func TestParseInt(t *testing.T) {
	checkParseInt(t, "0", 0, api.OK)
	checkParseInt(t, "9", 9, api.OK)
	checkParseInt(t, "-1", -1, api.OK)
	checkParseInt(t, "100", 100, api.OK)
	checkParseInt(t, "-20070", -20070, api.OK)
	checkParseInt(t, "4611686018427387903", bound-1, api.OK)
	checkParseInt(t, "4611686018427387904", bound, api.OK)
	checkParseInt(t, "-4611686018427387904", -bound, api.OK)
	checkParseInt(t, "4611686018427387905", 0, api.ErrRange)
	checkParseInt(t, "-4611686018427387905", 0, api.ErrRange)
	checkParseInt(t, "4611686018427387910", 0, api.ErrRange)
	checkParseInt(t, "9223372036854775807", 0, api.ErrRange)
	checkParseInt(t, "-9223372036854775808", 0, api.ErrRange)
	// Numbers that would wrap around to small ones.
	checkParseInt(t, "18446744073709551616", 0, api.ErrRange)
	checkParseInt(t, "-18446744073709551617", 0, api.ErrRange)
	checkParseInt(t, "36893488147419103232", 0, api.ErrRange)
	for digits := 20; digits < 400; digits++ {
		checkParseInt(t, "1"+strings.Repeat("0", digits), 0, api.ErrRange)
		checkParseInt(t, "-"+strings.Repeat("9", digits), 0, api.ErrRange)
	}
	checkParseInt(t, strings.Repeat("1", 1<<20), 0, api.ErrRange)
}

// P1.2: every other text is refused, a number out of range with a wrong form too.
func TestParseIntFormat(t *testing.T) {
	for _, s := range []string{
		"", "-", "--1", "-0", "-00", "00", "01", "007", "-01", "+1", "+0", "+", "1-", "1-1",
		" 1", "1 ", "\t1", "1\n", "1 0", "1.0", "1.", ".1", "1,000", "1_000", "0x10", "1e3", "a", "1a", "a1",
		"1\x00", "\x001", "1\xff", "\xff", "\u0663", "\uff11", "1\u0663", "\u22121", "½", "/", ":", "1/", "1:",
		"00000000000000000000000000000000000000001", "-000000000000000000000000000000",
		"099999999999999999999999", "99999999999999999999999x", "-99999999999999999999999 ", "4611686018427387905.",
	} {
		checkParseInt(t, s, 0, api.ErrFormat)
	}
	for _, s := range wordsOf("-+019 .", 5) {
		want, code := parseReference(s, 0)
		checkParseInt(t, s, want, code)
	}
}

// P1.3
func TestFormatFixed(t *testing.T) {
	for _, x := range []struct {
		n, places int
		s         string
	}{
		{-5, 2, "-0.05"}, {5, 2, "0.05"}, {0, 2, "0.00"}, {1, 1, "0.1"}, {10, 1, "1.0"}, {-10, 1, "-1.0"},
		{99, 2, "0.99"}, {100, 2, "1.00"}, {-99, 2, "-0.99"}, {-100, 2, "-1.00"}, {1250, 2, "12.50"},
		{125000, 4, "12.5000"}, {0, 9, "0.000000000"}, {-1, 9, "-0.000000001"}, {1000000000, 9, "1.000000000"},
		{7, 0, "7"}, {-7, 0, "-7"}, {0, 0, "0"},
		{7, -1, "7"}, {-7, math.MinInt, "-7"}, {70, -2, "70"},
		{1, 10, "0.000000001"}, {1, math.MaxInt, "0.000000001"}, {-12345678901, 64, "-12.345678901"},
		{math.MaxInt, 2, "92233720368547758.07"}, {math.MinInt, 2, "-92233720368547758.08"},
		{math.MinInt, 9, "-9223372036.854775808"}, {math.MinInt, 0, "-9223372036854775808"},
	} {
		if s := FormatFixed(x.n, x.places); s != x.s {
			t.Errorf("FormatFixed(%d, %d) = %q, not %q", x.n, x.places, s, x.s)
		}
	}
	for _, n := range sampleInts() {
		for places := -2; places <= 11; places++ {
			if s, want := FormatFixed(n, places), fixedReference(big.NewInt(int64(n)), places); s != want {
				t.Errorf("FormatFixed(%d, %d) = %q, not %q", n, places, s, want)
			}
		}
	}
}

// P1.4: well-formed numbers, and the bounds for each number of places.
func TestParseFixed(t *testing.T) {
	checkParseFixed(t, "0.00", 2, 0, api.OK)
	checkParseFixed(t, "-0.05", 2, -5, api.OK)
	checkParseFixed(t, "12.50", 2, 1250, api.OK)
	checkParseFixed(t, "-1200.0", 1, -12000, api.OK)
	checkParseFixed(t, "12.5000", 4, 125000, api.OK)
	checkParseFixed(t, "-17", 0, -17, api.OK)
	checkParseFixed(t, "17", -1, 17, api.OK)
	checkParseFixed(t, "17", math.MinInt, 17, api.OK)
	checkParseFixed(t, "0.000000017", 10, 17, api.OK)
	checkParseFixed(t, "1.000000017", math.MaxInt, 1000000017, api.OK)
	checkParseFixed(t, "4611686018427387904", 0, bound, api.OK)
	checkParseFixed(t, "4611686018427387905", 0, 0, api.ErrRange)
	checkParseFixed(t, "46116860184273879.04", 2, bound, api.OK)
	checkParseFixed(t, "-46116860184273879.04", 2, -bound, api.OK)
	checkParseFixed(t, "46116860184273879.05", 2, 0, api.ErrRange)
	checkParseFixed(t, "-46116860184273879.05", 2, 0, api.ErrRange)
	checkParseFixed(t, "46116860184273880.00", 2, 0, api.ErrRange)
	for places := -1; places <= 10; places++ {
		for _, text := range []string{
			"4611686018427387903", "4611686018427387904", "4611686018427387905", "4611686018427387914",
			"9223372036854775808", "18446744073709551616", "18446744073709551617", "1" + strings.Repeat("0", 300),
		} {
			n, _ := new(big.Int).SetString(text, 10)
			for _, n := range []*big.Int{n, new(big.Int).Neg(n)} {
				s := fixedReference(n, places)
				if inBounds(n) {
					checkParseFixed(t, s, places, int(n.Int64()), api.OK)
				} else {
					checkParseFixed(t, s, places, 0, api.ErrRange)
				}
			}
		}
	}
}

// P1.4: every other text is refused, a number out of range with a wrong form too.
func TestParseFixedFormat(t *testing.T) {
	for _, s := range []string{
		"", "-", ".", "-.", "1", "-1", "0", "1.", "1.5", "1.500", ".50", "-.50", "00.50", "01.50", "-01.50", "-00.50",
		"-0.00", "--1.50", "+1.50", "+0.00", "1.-5", "1.+5", "1,50", "1..50", "1.5.0", "1.50.", ".1.50", "1.50.00",
		" 1.50", "1.50 ", "1. 5", "1 .50", "1.5 ", "1.50\n", "1.5a", "a.50", "0x1.50", "1e1.50", "1.5\x00", "\xff1.50", "1.\xff\xff",
		"\u0661.50", "1.\u0665", "1\uff0e50", "1.½",
		"46116860184273879050", "46116860184273879.050", "46116860184273879.5", "099999999999999999999.99", "99999999999999999999.9x",
		"-0000000000000000000000000000.00",
	} {
		checkParseFixed(t, s, 2, 0, api.ErrFormat)
	}
	checkParseFixed(t, "-0.000000000", 9, 0, api.ErrFormat)
	checkParseFixed(t, "-0.000000000", 12, 0, api.ErrFormat)
	checkParseFixed(t, "0.0000000001", 10, 0, api.ErrFormat)
	checkParseFixed(t, "-0", 0, 0, api.ErrFormat)
	checkParseFixed(t, "1.", 0, 0, api.ErrFormat)
	checkParseFixed(t, "1.0", -1, 0, api.ErrFormat)
	for _, s := range wordsOf("-01. +", 6) {
		for places := -1; places <= 4; places++ {
			want, code := parseReference(s, places)
			checkParseFixed(t, s, places, want, code)
		}
	}
}

// P1.5
func TestFields(t *testing.T) {
	for _, x := range []struct {
		s    string
		want []string
	}{
		{"", nil}, {" ", nil}, {"\t", nil}, {" \t \t\t  ", nil},
		{"a", []string{"a"}}, {"abc", []string{"abc"}}, {"a b", []string{"a", "b"}}, {"a\tb", []string{"a", "b"}},
		{" a", []string{"a"}}, {"a ", []string{"a"}}, {"\ta\t", []string{"a"}}, {"a \t b", []string{"a", "b"}},
		{" a  bc\td\n ", []string{"a", "bc", "d\n"}}, {"b a b", []string{"b", "a", "b"}},
		// Nothing but the blank and the tab separates.
		{"a\nb", []string{"a\nb"}}, {"a\r b\v\fc", []string{"a\r", "b\v\fc"}}, {"a\x00b \x7f", []string{"a\x00b", "\x7f"}},
		{"a\u00a0b\u2003c \u3000", []string{"a\u00a0b\u2003c", "\u3000"}}, {"\u0120 \u0109", []string{"\u0120", "\u0109"}},
		{"é ü\tß", []string{"é", "ü", "ß"}},
		// Bytes that are not UTF-8 are kept.
		{"\xff \xc3 \xe2\x82\t\x80\x80", []string{"\xff", "\xc3", "\xe2\x82", "\x80\x80"}}, {"\xe2\x82 x", []string{"\xe2\x82", "x"}},
	} {
		if got := Fields(x.s); !slices.Equal(got, x.want) {
			t.Errorf("Fields(%q) = %q, not %q", x.s, got, x.want)
		}
	}
	isSeparator := func(r rune) bool { return r == 32 || r == 9 }
	for _, s := range wordsOf("a \t\n", 6) {
		if got, want := Fields(s), strings.FieldsFunc(s, isSeparator); !slices.Equal(got, want) {
			t.Errorf("Fields(%q) = %q, not %q", s, got, want)
		}
	}
}

// P1.5 sets no bound on the length.
func TestFieldsOfLongText(t *testing.T) {
	got := Fields(strings.Repeat("ab ", api.MaxText))
	if len(got) != api.MaxText || got[0] != "ab" || got[api.MaxText-1] != "ab" {
		t.Errorf("%d fields", len(got))
	}
	if got := Fields(strings.Repeat("x", api.MaxText+1)); len(got) != 1 || len(got[0]) != api.MaxText+1 {
		t.Errorf("%d fields", len(got))
	}
}

// P1.6
func TestSplitLines(t *testing.T) {
	for _, x := range []struct {
		s    string
		want []string
	}{
		{"", nil}, {"\n", []string{""}}, {"\n\n\n", []string{"", "", ""}}, {"a\n", []string{"a"}}, {"a\nb\n", []string{"a", "b"}},
		{"a b\n\nc\n", []string{"a b", "", "c"}}, {"\na\n", []string{"", "a"}}, {" \t\n~ \n", []string{" \t", "~ "}},
		{strings.Repeat("x", api.MaxText-1) + "\n", []string{strings.Repeat("x", api.MaxText-1)}},
	} {
		if got, e := SplitLines(x.s); e != api.OK || !slices.Equal(got, x.want) {
			t.Errorf("SplitLines(%.40q) = %.40q, %d", x.s, got, e)
		}
	}
	if got, e := SplitLines(strings.Repeat("\n", api.MaxText)); e != api.OK || len(got) != api.MaxText {
		t.Errorf("%d lines, %d", len(got), e)
	}
}

func checkSplitFails(t *testing.T, s string, code api.Errno) {
	t.Helper()
	if got, e := SplitLines(s); got != nil || e != code {
		t.Errorf("SplitLines(%.40q) = %.40q, %d, not %d", s, got, e, code)
	}
}

// P1.6: each byte alone, and texts that are too long, malformed, or without the last line feed.
func TestSplitLinesErrors(t *testing.T) {
	for b := range 256 {
		s := "a\nx" + string([]byte{byte(b)}) + "y\nb\n"
		if b == 9 || b == 10 || b >= 32 && b <= 126 {
			if _, e := SplitLines(s); e != api.OK {
				t.Errorf("byte %d: %d", b, e)
			}
		} else {
			checkSplitFails(t, s, api.ErrFormat)
		}
	}
	for _, s := range []string{
		"a", " ", "\t", "a\nb", "\n\nb", "a\n ", "a\r\n", "a\n\r", "\x7f\n", "\x00\n", "é\n", "a\n\xff\n", "\u0120\n", "\u2028\n",
		strings.Repeat("x", api.MaxText), strings.Repeat("\n", api.MaxText-1) + "\x80",
	} {
		checkSplitFails(t, s, api.ErrFormat)
	}
	for _, s := range []string{
		strings.Repeat("x", api.MaxText) + "\n", strings.Repeat("\n", api.MaxText+1), strings.Repeat("x", api.MaxText+1),
		strings.Repeat("\x00", api.MaxText+1), strings.Repeat("\xff", 3*api.MaxText), strings.Repeat("é\n", api.MaxText/3+1),
	} {
		checkSplitFails(t, s, api.ErrTooLong)
	}
}

// P1.7: integers and fixed-point numbers return from their texts, and are refused beyond the bounds.
func TestNumbersRoundTrip(t *testing.T) {
	for _, n := range sampleInts() {
		want, code := n, api.OK
		if n < -bound || n > bound {
			want, code = 0, api.ErrRange
		}
		checkParseInt(t, FormatInt(n), want, code)
		for places := -1; places <= 10; places++ {
			checkParseFixed(t, FormatFixed(n, places), places, want, code)
		}
	}
}

// P1.7: texts return from their numbers.
func TestTextsRoundTrip(t *testing.T) {
	for _, s := range wordsOf("-019.", 5) {
		if n, e := ParseInt(s); e == api.OK && FormatInt(n) != s {
			t.Errorf("%q becomes %q", s, FormatInt(n))
		}
		for places := -1; places <= 10; places++ {
			if n, e := ParseFixed(s, places); e == api.OK && FormatFixed(n, places) != s {
				t.Errorf("%q becomes %q with %d places", s, FormatFixed(n, places), places)
			}
		}
	}
}

// P1.7: lines concatenate to the text.
func TestLinesRoundTrip(t *testing.T) {
	split := 0
	for _, s := range wordsOf("a \t\n\r", 6) {
		lines, e := SplitLines(s)
		if e != api.OK {
			continue
		}
		split++
		joined := ""
		for _, line := range lines {
			joined += line + "\n"
		}
		if joined != s {
			t.Errorf("SplitLines(%q) = %q", s, lines)
		}
	}
	// The empty text, and any 0 to 5 of the four letters before a line feed.
	if want := 1 + 1 + 4 + 16 + 64 + 256 + 1024; split != want {
		t.Errorf("%d texts split, not %d", split, want)
	}
}

// R4: no two answers share memory.
func TestAnswersAreNew(t *testing.T) {
	fields := Fields("a b c")
	fields[1] = "x"
	if again := Fields("a b c"); again[1] != "b" {
		t.Error(again)
	}
	lines, _ := SplitLines("a\nb\n")
	lines[1] = "x"
	if again, _ := SplitLines("a\nb\n"); again[1] != "b" {
		t.Error(again)
	}
}
