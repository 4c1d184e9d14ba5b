package date

import (
	"fmt"
	"math"
	"math/big"
	"regexp"
	"strings"
	"testing"
	"time"

	"guerdon/api"
)

// greatShift is the greatest number of months that AddMonths takes: those from January 1900 to December 2199.
const greatShift = 300 * 12

var (
	// wrongDates are numbers that are not valid dates, those next to the valid ones first.
	wrongDates = []int{-1, api.MaxDate + 1, -2, api.MaxDate + 2, -25567, -api.MaxDate, -api.MaxDate - 1, 2 * api.MaxDate, 1 << 32, -1 << 32, math.MaxInt, math.MinInt}
	farInts    = []int{1 << 31, -1 << 31, 1 << 32, -1 << 32, 1<<32 + 1, math.MaxInt, math.MinInt, math.MaxInt - 1, math.MinInt + 1}
	dateForm   = regexp.MustCompile(`\A[0-9]{4}-[0-9]{2}-[0-9]{2}\z`)
)

// civil is a year, a month and a day of the month.
type civil struct {
	y, m, d int
}

// allDays lists the days from 1 January 1900 to 31 December 2199 by the library's calendar.
func allDays() []civil {
	var list []civil
	for day := time.Date(1900, time.January, 1, 0, 0, 0, 0, time.UTC); day.Year() < 2200; day = day.AddDate(0, 0, 1) {
		list = append(list, civil{day.Year(), int(day.Month()), day.Day()})
	}
	return list
}

// lengthOf is the number of days of a month by the library's calendar. The month may lie outside of the year.
func lengthOf(y, m int) int {
	return time.Date(y, time.Month(m+1), 0, 0, 0, 0, 0, time.UTC).Day()
}

func isLater(a, b civil) bool {
	if a.y != b.y {
		return a.y > b.y
	}
	if a.m != b.m {
		return a.m > b.m
	}
	return a.d > b.d
}

func checkFromYMD(t *testing.T, y, m, d, want int, code api.Errno) {
	t.Helper()
	if n, e := FromYMD(y, m, d); n != want || e != code {
		t.Errorf("FromYMD(%d, %d, %d) = %d, %d, not %d, %d", y, m, d, n, e, want, code)
	}
}

func checkToYMD(t *testing.T, date int, want civil) {
	t.Helper()
	if y, m, d := ToYMD(date); want != (civil{y, m, d}) {
		t.Errorf("ToYMD(%d) = %d, %d, %d, not %v", date, y, m, d, want)
	}
}

func checkAddMonths(t *testing.T, date, n, want int, code api.Errno) {
	t.Helper()
	if got, e := AddMonths(date, n); got != want || e != code {
		t.Errorf("AddMonths(%d, %d) = %d, %d, not %d, %d", date, n, got, e, want, code)
	}
}

func checkYearsBetween(t *testing.T, a, b, want int) {
	t.Helper()
	if n := YearsBetween(a, b); n != want {
		t.Errorf("YearsBetween(%d, %d) = %d, not %d", a, b, n, want)
	}
}

func checkParse(t *testing.T, s string, want int, code api.Errno) {
	t.Helper()
	if n, e := Parse(s); n != want || e != code {
		t.Errorf("Parse(%q) = %d, %d, not %d, %d", s, n, e, want, code)
	}
}

// dateOf is the date of a text that must be one.
func dateOf(t *testing.T, s string) int {
	t.Helper()
	date, code := Parse(s)
	if code != api.OK {
		t.Fatalf("Parse(%q) fails with %d", s, code)
	}
	return date
}

// shifted checks AddMonths between two dates written as texts.
func shifted(t *testing.T, from string, n int, to string) {
	t.Helper()
	checkAddMonths(t, dateOf(t, from), n, dateOf(t, to), api.OK)
}

// P4.1: the rule of the leap years, for years of any sign and size.
func TestIsLeap(t *testing.T) {
	for _, y := range []int{1904, 1996, 2000, 2004, 2024, 2196, 2400, 4, 400, 0, -4, -400, -2000, -1996, 1 << 62, math.MinInt, math.MaxInt - 3, math.MinInt + 4} {
		if !IsLeap(y) {
			t.Errorf("%d is a leap year", y)
		}
	}
	for _, y := range []int{1900, 2100, 2199, 2200, 2198, 1901, 1902, 1903, 2023, 1, 2, 3, 100, 200, 300, -1, -2, -3, -100, -200, -300, -1900, -2001, -2023, math.MaxInt, math.MaxInt - 1, math.MaxInt - 2, math.MinInt + 1, math.MinInt + 2, math.MinInt + 3} {
		if IsLeap(y) {
			t.Errorf("%d is no leap year", y)
		}
	}
}

// leapReference says of a year of any size whether it is a leap year, by what divides it.
func leapReference(y int) bool {
	divisible := func(by int64) bool {
		return new(big.Int).Rem(big.NewInt(int64(y)), big.NewInt(by)).Sign() == 0
	}
	if divisible(100) {
		return divisible(400)
	}
	return divisible(4)
}

// P4.1
func TestIsLeapAgainstReference(t *testing.T) {
	var years []int
	for y := -2500; y <= 2500; y++ {
		years = append(years, y)
	}
	for i := range 900 {
		years = append(years, math.MaxInt-i, math.MinInt+i)
	}
	for _, y := range years {
		if IsLeap(y) != leapReference(y) {
			t.Errorf("IsLeap(%d) = %t", y, IsLeap(y))
		}
	}
}

// P4.1: each month of common and of leap years, of any int.
func TestDaysInMonth(t *testing.T) {
	lengths := [12]int{31, 28, 31, 30, 31, 30, 31, 31, 30, 31, 30, 31}
	for _, y := range []int{1900, 1901, 2000, 2023, 2024, 2100, 2196, 2199, 1899, 2200, 0, 1, -1, -4, -100, -400, math.MaxInt, math.MaxInt - 3, math.MinInt, math.MinInt + 1} {
		for i, want := range lengths {
			if i == 1 && leapReference(y) {
				want = 29
			}
			if n := DaysInMonth(y, i+1); n != want {
				t.Errorf("DaysInMonth(%d, %d) = %d, not %d", y, i+1, n, want)
			}
		}
		for _, m := range append([]int{0, 13, -1, 14, -2, -12, 24, 25, 256 + 2, -256 + 2}, farInts...) {
			if n := DaysInMonth(y, m); n != 0 {
				t.Errorf("DaysInMonth(%d, %d) = %d, not 0", y, m, n)
			}
		}
	}
	if DaysInMonth(1900, 2) != 28 || DaysInMonth(2000, 2) != 29 || DaysInMonth(2100, 2) != 28 || DaysInMonth(2024, 2) != 29 {
		t.Error("the lengths of February")
	}
}

// P4.1
func TestDaysInMonthAgainstLibrary(t *testing.T) {
	for y := -800; y <= 2800; y++ {
		for m := 1; m <= 12; m++ {
			if n := DaysInMonth(y, m); n != lengthOf(y, m) {
				t.Errorf("DaysInMonth(%d, %d) = %d, not %d", y, m, n, lengthOf(y, m))
			}
		}
	}
}

// P4.2: the example, the first and the last date, and the days about the ends of months and years.
func TestFromYMDAndToYMD(t *testing.T) {
	for _, x := range []struct {
		day  civil
		date int
	}{
		{civil{1900, 1, 1}, 0},
		{civil{1900, 1, 2}, 1},
		{civil{1900, 1, 31}, 30},
		{civil{1900, 2, 1}, 31},
		{civil{1900, 2, 28}, 58},
		{civil{1900, 3, 1}, 59},
		{civil{1900, 12, 31}, 364},
		{civil{1901, 1, 1}, 365},
		{civil{1904, 2, 29}, 4*365 + 59},
		{civil{1904, 12, 31}, 5 * 365},
		{civil{1905, 1, 1}, 5*365 + 1},
		{civil{1970, 1, 1}, 25567},
		{civil{2000, 1, 1}, 36524},
		{civil{2000, 2, 29}, 36583},
		{civil{2000, 3, 1}, 36584},
		{civil{2000, 12, 31}, 36889},
		{civil{2001, 1, 1}, 36890},
		{civil{2024, 2, 29}, 45349},
		{civil{2100, 2, 28}, 73107},
		{civil{2100, 3, 1}, 73108},
		{civil{2199, 1, 1}, api.MaxDate - 364},
		{civil{2199, 12, 30}, api.MaxDate - 1},
		{civil{2199, 12, 31}, api.MaxDate},
	} {
		checkFromYMD(t, x.day.y, x.day.m, x.day.d, x.date, api.OK)
		checkToYMD(t, x.date, x.day)
	}
}

// P4.2: years, months and days next to those that exist, far from them, and several wrong at once.
func TestFromYMDOutOfRange(t *testing.T) {
	for _, x := range []civil{
		{1899, 12, 31}, {1899, 1, 1}, {2200, 1, 1}, {2200, 12, 31}, {0, 1, 1}, {-2000, 1, 1}, {24, 2, 29}, {3600, 1, 1},
		{2024, 0, 1}, {2024, 13, 1}, {2024, -1, 1}, {1900, 0, 31}, {2199, 13, 1}, {2199, 13, 0}, {2024, 0, 0}, {1899, 13, 32},
		{1900, 1, 0}, {1900, 2, 29}, {2000, 2, 30}, {2100, 2, 29}, {2199, 2, 29}, {2023, 2, 29}, {2024, 2, 30}, {2199, 12, 32}, {2024, 4, 31},
	} {
		checkFromYMD(t, x.y, x.m, x.d, 0, api.ErrRange)
	}
	for y := 1900; y <= 2199; y++ {
		for m := 1; m <= 12; m++ {
			for _, d := range []int{0, -1, lengthOf(y, m) + 1, 32, 366} {
				checkFromYMD(t, y, m, d, 0, api.ErrRange)
			}
		}
	}
	for _, n := range farInts {
		checkFromYMD(t, n, 1, 1, 0, api.ErrRange)
		checkFromYMD(t, 2024, n, 1, 0, api.ErrRange)
		checkFromYMD(t, 2024, 1, n, 0, api.ErrRange)
		checkFromYMD(t, n, n, n, 0, api.ErrRange)
	}
}

// P4.2 and P4.3: what is no date has no year and no weekday.
func TestWrongDates(t *testing.T) {
	for _, date := range wrongDates {
		checkToYMD(t, date, civil{})
		if w := Weekday(date); w != -1 {
			t.Errorf("Weekday(%d) = %d, not -1", date, w)
		}
	}
}

// P4.3: days whose weekday is known, and the same weekday a week later.
func TestWeekday(t *testing.T) {
	if w := Weekday(0); w != 0 {
		t.Errorf("Weekday(0) = %d, not 0", w)
	}
	for _, x := range []struct {
		day     string
		weekday int
	}{
		{"1900-01-01", 0}, {"1900-01-02", 1}, {"1900-01-06", 5}, {"1900-01-07", 6}, {"1900-01-08", 0},
		{"1970-01-01", 3}, {"2000-01-01", 5}, {"2000-02-29", 1}, {"2024-02-29", 3}, {"2026-11-20", 4}, {"2199-12-31", 1},
	} {
		if w := Weekday(dateOf(t, x.day)); w != x.weekday {
			t.Errorf("the weekday of %s is %d, not %d", x.day, w, x.weekday)
		}
	}
}

// P4.2, P4.3, P4.6 and P4.7: every date against the library's calendar, there and back.
func TestEveryDate(t *testing.T) {
	days := allDays()
	if len(days) != api.MaxDate+1 {
		t.Fatalf("there are %d days, not %d", len(days), api.MaxDate+1)
	}
	for date, day := range days {
		checkToYMD(t, date, day)
		checkFromYMD(t, day.y, day.m, day.d, date, api.OK)
		weekday := time.Date(day.y, time.Month(day.m), day.d, 0, 0, 0, 0, time.UTC).Weekday()
		if w := Weekday(date); w != (int(weekday)+6)%7 {
			t.Errorf("Weekday(%d) = %d on a %s", date, w, weekday)
		}
		text := fmt.Sprintf("%04d-%02d-%02d", day.y, day.m, day.d)
		if s := Format(date); s != text {
			t.Errorf("Format(%d) = %q, not %q", date, s, text)
		}
		checkParse(t, text, date, api.OK)
	}
}

// P4.7: neighbours are a weekday apart, and the later one has the greater triple.
func TestConsecutiveDates(t *testing.T) {
	var before civil
	for date := range api.MaxDate + 1 {
		y, m, d := ToYMD(date)
		day := civil{y, m, d}
		if !isLater(day, before) {
			t.Errorf("%v of date %d is not later than %v", day, date, before)
		}
		if date > 0 && Weekday(date) != (Weekday(date-1)+1)%7 {
			t.Errorf("the weekdays of %d and %d are %d and %d", date-1, date, Weekday(date-1), Weekday(date))
		}
		before = day
	}
}

// P4.4: examples, and the last days of months into shorter and longer ones, forwards and backwards.
func TestAddMonths(t *testing.T) {
	shifted(t, "2024-02-29", 12, "2025-02-28")
	shifted(t, "2024-02-29", 0, "2024-02-29")
	shifted(t, "2024-02-29", -12, "2023-02-28")
	shifted(t, "2024-02-29", 48, "2028-02-29")
	shifted(t, "2000-02-29", 1200, "2100-02-28")
	shifted(t, "2000-02-29", -1200, "1900-02-28")
	shifted(t, "2024-01-31", 1, "2024-02-29")
	shifted(t, "2023-01-31", 1, "2023-02-28")
	shifted(t, "2024-01-30", 1, "2024-02-29")
	shifted(t, "2024-01-29", 1, "2024-02-29")
	shifted(t, "2024-01-28", 1, "2024-02-28")
	shifted(t, "2024-01-31", 2, "2024-03-31")
	shifted(t, "2024-01-31", 3, "2024-04-30")
	shifted(t, "2024-03-31", -1, "2024-02-29")
	shifted(t, "2024-05-31", -1, "2024-04-30")
	// The day stays, though the month it comes into is longer.
	shifted(t, "2024-02-29", 1, "2024-03-29")
	shifted(t, "2023-02-28", 1, "2023-03-28")
	shifted(t, "2024-04-30", 1, "2024-05-30")
	shifted(t, "2024-04-30", -1, "2024-03-30")
	shifted(t, "2023-02-28", -1, "2023-01-28")
	shifted(t, "2023-02-28", 12, "2024-02-28")
	// Over the ends of years.
	shifted(t, "2024-12-15", 1, "2025-01-15")
	shifted(t, "2024-12-31", 2, "2025-02-28")
	shifted(t, "2024-01-15", -1, "2023-12-15")
	shifted(t, "2024-01-15", -13, "2022-12-15")
	shifted(t, "2024-12-01", -12, "2023-12-01")
	shifted(t, "2024-11-30", 13, "2025-12-30")
}

// P4.4: from the first month to the last and back, and one month beyond them.
func TestAddMonthsAtTheEnds(t *testing.T) {
	first, last := 0, api.MaxDate
	checkAddMonths(t, first, 0, first, api.OK)
	checkAddMonths(t, last, 0, last, api.OK)
	shifted(t, "1900-01-01", api.MaxMonth, "2199-12-01")
	shifted(t, "1900-01-31", api.MaxMonth, "2199-12-31")
	shifted(t, "2199-12-31", -api.MaxMonth, "1900-01-31")
	shifted(t, "2199-12-31", -api.MaxMonth+1, "1900-02-28")
	shifted(t, "2199-11-30", 1, "2199-12-30")
	shifted(t, "1900-02-28", -1, "1900-01-28")
	for _, x := range []struct {
		day string
		n   int
	}{
		{"1900-01-01", -1}, {"1900-01-31", -1}, {"1900-01-31", -12}, {"1900-12-31", -12}, {"1901-01-01", -13},
		{"2199-12-31", 1}, {"2199-12-01", 1}, {"2199-12-01", 12}, {"2199-01-01", 12}, {"2198-12-31", 13}, {"1900-02-01", api.MaxMonth}, {"2199-11-30", -api.MaxMonth},
	} {
		checkAddMonths(t, dateOf(t, x.day), x.n, 0, api.ErrRange)
	}
	for _, n := range append([]int{greatShift, greatShift - 1, greatShift + 1, greatShift + 12, -greatShift, -greatShift + 1, -greatShift - 1, -greatShift - 12}, farInts...) {
		checkAddMonths(t, dateOf(t, "2024-02-29"), n, 0, api.ErrRange)
		if n < 0 || n >= greatShift {
			checkAddMonths(t, first, n, 0, api.ErrRange)
		}
		if n > 0 || n <= -greatShift {
			checkAddMonths(t, last, n, 0, api.ErrRange)
		}
	}
	if greatShift != api.MaxMonth+1 {
		t.Errorf("there are %d months, not %d", api.MaxMonth+1, greatShift)
	}
}

// P4.4
func TestAddMonthsToWrongDates(t *testing.T) {
	for _, date := range wrongDates {
		for _, n := range append([]int{0, 1, -1, 12, -12, api.MaxMonth, -api.MaxMonth, greatShift, -greatShift}, farInts...) {
			checkAddMonths(t, date, n, 0, api.ErrRange)
		}
	}
}

// P4.4: every length of month into every month, against the library's calendar.
func TestAddMonthsAgainstLibrary(t *testing.T) {
	days := allDays()
	number := map[civil]int{}
	for date, day := range days {
		number[day] = date
	}
	for date := 0; date <= api.MaxDate; date += 97 {
		day := days[date]
		for _, n := range []int{-3600, -3599, -2401, -1200, -600, -49, -24, -23, -13, -12, -11, -10, -9, -8, -7, -6, -5, -4, -3, -2, -1, 0, 1, 2, 3, 4, 5, 6, 7, 8, 9, 10, 11, 12, 13, 23, 24, 49, 600, 1200, 2401, 3599, 3600} {
			first := time.Date(day.y, time.Month(day.m+n), 1, 0, 0, 0, 0, time.UTC)
			length := lengthOf(first.Year(), int(first.Month()))
			want, found := number[civil{first.Year(), int(first.Month()), min(day.d, length)}]
			if found {
				checkAddMonths(t, date, n, want, api.OK)
			} else {
				checkAddMonths(t, date, n, 0, api.ErrRange)
			}
		}
	}
}

// P4.5: the example, and birthdays, their eves and the days after them.
func TestYearsBetween(t *testing.T) {
	for _, x := range []struct {
		a, b string
		want int
	}{
		{"2000-02-29", "2001-02-28", 1},
		{"2000-02-29", "2001-02-27", 0},
		{"2000-02-29", "2001-03-01", 1},
		{"2000-02-29", "2000-02-29", 0},
		{"2000-02-29", "2003-02-27", 2},
		{"2000-02-29", "2003-02-28", 3},
		// The eve of the anniversary of a leap year is 28 February.
		{"2000-02-29", "2004-02-28", 3},
		{"2000-02-29", "2004-02-29", 4},
		{"2000-02-29", "2100-02-27", 99},
		{"2000-02-29", "2100-02-28", 100},
		{"1904-02-29", "2196-02-28", 291},
		{"1904-02-29", "2196-02-29", 292},
		{"2023-02-28", "2024-02-27", 0},
		{"2023-02-28", "2024-02-28", 1},
		{"2023-03-01", "2024-02-29", 0},
		{"1990-06-15", "2024-06-14", 33},
		{"1990-06-15", "2024-06-15", 34},
		{"1990-06-15", "2024-06-16", 34},
		{"1990-06-15", "2024-05-31", 33},
		{"1990-06-15", "2024-07-01", 34},
		{"1990-06-15", "1990-06-15", 0},
		{"1990-06-15", "1990-12-31", 0},
		{"1990-06-15", "1991-06-14", 0},
		{"1990-12-31", "1991-01-01", 0},
		{"1900-01-01", "2199-12-31", 299},
		{"1900-01-01", "2199-01-01", 299},
		{"1900-01-01", "2198-12-31", 298},
		{"1900-12-31", "2199-12-31", 299},
		{"1900-12-31", "2199-12-30", 298},
		{"2199-12-31", "2199-12-31", 0},
		// The wrong order.
		{"2024-01-02", "2024-01-01", 0},
		{"2024-02-29", "2023-02-28", 0},
		{"2199-12-31", "1900-01-01", 0},
	} {
		checkYearsBetween(t, dateOf(t, x.a), dateOf(t, x.b), x.want)
	}
}

// P4.5: numbers that are not dates, on either side and on both, in either order.
func TestYearsBetweenWrongDates(t *testing.T) {
	for _, wrong := range wrongDates {
		for _, date := range []int{0, 1, 36583, api.MaxDate} {
			checkYearsBetween(t, wrong, date, 0)
			checkYearsBetween(t, date, wrong, 0)
		}
		for _, other := range wrongDates {
			checkYearsBetween(t, wrong, other, 0)
		}
	}
}

// yearsReference is the largest n by the words of P4.5.
func yearsReference(a, b int) int {
	years := 0
	for n := range 301 {
		date, code := AddMonths(a, 12*n)
		if code == api.OK && date <= b {
			years = n
		}
	}
	return years
}

// P4.5
func TestYearsBetweenAgainstReference(t *testing.T) {
	for _, a := range []int{0, 58, 59, 364, 365, 1519, 1520, dateOf(t, "2000-02-28"), dateOf(t, "2000-02-29"), dateOf(t, "2000-03-01"), dateOf(t, "2096-02-29"), dateOf(t, "2100-02-28"), api.MaxDate - 365, api.MaxDate - 1, api.MaxDate} {
		for n := range 300 {
			anniversary, code := AddMonths(a, 12*n)
			if code != api.OK {
				break
			}
			for b := max(a, anniversary-2); b <= min(anniversary+2, api.MaxDate); b++ {
				checkYearsBetween(t, a, b, yearsReference(a, b))
			}
		}
	}
}

// P4.6: texts of dates, with leading zeros, and no text for what is no date.
func TestFormat(t *testing.T) {
	for _, x := range []struct {
		date int
		s    string
	}{
		{0, "1900-01-01"}, {8, "1900-01-09"}, {9, "1900-01-10"}, {272, "1900-09-30"}, {273, "1900-10-01"},
		{25567, "1970-01-01"}, {36583, "2000-02-29"}, {45349, "2024-02-29"}, {api.MaxDate, "2199-12-31"},
	} {
		if s := Format(x.date); s != x.s {
			t.Errorf("Format(%d) = %q, not %q", x.date, s, x.s)
		}
	}
	for _, date := range wrongDates {
		if s := Format(date); s != "" {
			t.Errorf("Format(%d) = %q, not empty", date, s)
		}
	}
}

// P4.6: texts of another form, even where the numbers would be out of range, too.
func TestParseFormat(t *testing.T) {
	for _, s := range []string{
		"", "-", "--", "2024", "2024-02", "2024-02-", "2024-02-2", "2024-2-29", "2024-02-029", "024-02-29", "02024-02-29", "24-02-29",
		"2024-02-290", "2024-02-29 ", " 2024-02-29", "2024-02-29\n", "\n2024-02-2", "2024-02-29\x00", "20240229", "2024-0229", "202402-29",
		"2024/02/29", "2024-02/29", "2024/02-29", "2024.02.29", "2024 02 29", "2024_02_29", "2024\u201302\u201329", "2024022902", "20240-2-29", "202-402-29",
		"+024-02-29", "-024-02-29", "2024-+2-29", "2024--2-29", "2024-02-+9", "2024-02--9", "2024-0.-29", "2.24-02-29", "0x24-02-29", "2e03-02-29",
		"2024-02-2x", "2024-02-x9", "2024-x2-29", "x024-02-29", "2024-02- 9", "2024- 2-29", " 024-02-29", "2024-1_-01", "2_24-01-01",
		"9999/99/99", "9999-99-9x", "0000-00-0 ", "1899-12-3x", "2023-02-29x", "2023-13-1", "10000-01-01",
		"\u0662\u0660-01-01", "2024-\u0661-1", "2024-\u0661-01", "2024-01-\u0661", "\xff024-01-01", "2024-01-0\xb2", "\uff12024-01", "2024-01-\u00b9",
		strings.Repeat("0", 10), strings.Repeat("-", 10), strings.Repeat("2024-02-29", 2), strings.Repeat("1", 70000),
	} {
		checkParse(t, s, 0, api.ErrFormat)
	}
	// Each other byte at each place of a date.
	for i, right := range []byte("2011-11-11") {
		for b := range 256 {
			other := byte(b)
			if other == right || right != '-' && other >= '0' && other <= '9' {
				continue
			}
			text := []byte("2011-11-11")
			text[i] = other
			checkParse(t, string(text), 0, api.ErrFormat)
		}
	}
}

// P4.6: texts of the form of a date for days that do not exist.
func TestParseRange(t *testing.T) {
	for _, s := range []string{
		"0000-00-00", "0000-01-01", "0001-01-01", "0024-02-29", "1000-01-01", "1899-12-31", "1899-01-01", "2200-01-01", "2200-12-31", "9999-12-31", "9999-99-99",
		"2024-00-01", "2024-13-01", "2024-20-01", "2024-99-01", "2024-00-00", "1900-00-31", "2199-13-01",
		"2024-01-00", "2024-01-32", "2024-04-31", "2024-02-30", "2023-02-29", "1900-02-29", "2100-02-29", "2199-02-29", "2199-12-32", "1900-01-00", "2024-12-99",
	} {
		checkParse(t, s, 0, api.ErrRange)
	}
}

// parseReference parses s by the words of P4.6.
func parseReference(s string) (int, api.Errno) {
	if !dateForm.MatchString(s) {
		return 0, api.ErrFormat
	}
	var y, m, d int
	if _, err := fmt.Sscanf(s, "%d-%d-%d", &y, &m, &d); err != nil {
		return 0, api.ErrFormat
	}
	return FromYMD(y, m, d)
}

// P4.6 and P4.7: every month and day of two digits in several years, and what Parse takes is what Format writes.
func TestParseAgainstReference(t *testing.T) {
	for _, y := range []int{0, 1, 999, 1000, 1899, 1900, 1901, 2000, 2023, 2024, 2099, 2100, 2199, 2200, 9999} {
		for m := range 100 {
			for d := range 100 {
				s := fmt.Sprintf("%04d-%02d-%02d", y, m, d)
				want, code := parseReference(s)
				checkParse(t, s, want, code)
				if code == api.OK && Format(want) != s {
					t.Errorf("Format(%d) = %q, not %q", want, Format(want), s)
				}
			}
		}
	}
}
