package month

import (
	"fmt"
	"math"
	"math/rand"
	"regexp"
	"slices"
	"strings"
	"testing"
	"time"

	"guerdon/api"
	"guerdon/date"
)

const (
	lastMonth = api.MaxMonth
	lastDate  = api.MaxDate
	// end is the To of the ranges that contain the last date.
	end      = lastDate + 1
	saturday = 1 << 5
	sunday   = 1 << 6
)

var (
	weekend   = calendar(saturday | sunday)
	monthForm = regexp.MustCompile(`\A[0-9]{4}-[0-9]{2}\z`)
	// wrongMonths are no months, the nearest ones first.
	wrongMonths = []int{-1, lastMonth + 1, -2, lastMonth + 2, -12, -13, lastMonth + 12, -lastMonth, -lastMonth - 1, 2 * lastMonth, 22800, -22800, lastDate, 1 << 32, 1<<32 + 1489, -1 << 32, math.MinInt, math.MinInt + 1, math.MaxInt - 1, math.MaxInt}
	// wrongDates are dates that are not valid, the nearest ones first.
	wrongDates = []int{-1, end, -2, end + 1, -31, end + 31, -lastDate, 2 * lastDate, 1 << 32, 1<<32 + 45349, -1 << 32, math.MinInt, math.MinInt + 1, math.MaxInt - 1, math.MaxInt}
	wrongDays  = []int{0, 32, -1, 33, -31, 60, 1 << 32, 1<<32 + 1, -1 << 32, math.MinInt, math.MinInt + 1, math.MaxInt - 1, math.MaxInt}
	// wrongRanges are not valid, though many of them have dates between their ends.
	wrongRanges = []api.DateRange{
		r(-1, 0), r(-1, 31), r(-1, end), r(-31, 31), r(31, 0), r(1, 0), r(45360, 45340), r(0, -1), r(0, end+1), r(45321, end+1), r(end, lastDate), r(end+1, end+1), r(end+1, end), r(end, 0), r(-31, 0), r(-1, -1), r(end, end+31),
		r(1<<32, 1<<32+31), r(0, 1<<32), r(-1<<32, 31), r(math.MinInt, 31), r(0, math.MaxInt), r(math.MinInt, math.MaxInt), r(math.MaxInt, math.MinInt), r(math.MinInt, math.MinInt), r(math.MaxInt, math.MaxInt), r(31, math.MinInt), r(math.MaxInt, 31),
	}
	// someMonths lie at both ends and about February of leap and of common years.
	someMonths = []int{0, 1, 2, 3, 11, 12, 13, 14, 1199, 1200, 1201, 1202, 1476, 1477, 1487, 1488, 1489, 1490, 2400, 2401, 2402, lastMonth - 12, lastMonth - 11, lastMonth - 10, lastMonth - 2, lastMonth - 1, lastMonth}
)

func r(from, to int) api.DateRange { return api.DateRange{From: from, To: to} }

func calendar(weekend int, holidays ...int) api.Calendar {
	return api.Calendar{Weekend: weekend, Holidays: holidays}
}

// sequence lists n numbers from a first one on, each a step after the one before it.
func sequence(first, step, n int) []int {
	l := make([]int, n)
	for i := range l {
		l[i] = first + i*step
	}
	return l
}

// dateOf is the date of a text that must be one.
func dateOf(t *testing.T, s string) int {
	t.Helper()
	day, code := date.Parse(s)
	if code != api.OK {
		t.Fatalf("date.Parse(%q) fails with %d", s, code)
	}
	return day
}

// monthOf is the month of a text that must be one, read by its digits.
func monthOf(t *testing.T, s string) int {
	t.Helper()
	var y, m int
	if _, err := fmt.Sscanf(s, "%d-%d", &y, &m); err != nil {
		t.Fatal(s, err)
	}
	return (y-1900)*12 + m - 1
}

func checkFromDate(t *testing.T, day, want int) {
	t.Helper()
	if m := FromDate(day); m != want {
		t.Errorf("FromDate(%d) = %d, not %d", day, m, want)
	}
}

func checkRange(t *testing.T, m int, want api.DateRange, code api.Errno) {
	t.Helper()
	if got, e := Range(m); got != want || e != code {
		t.Errorf("Range(%d) = %v, %d, not %v, %d", m, got, e, want, code)
	}
	if n := Days(m); n != want.To-want.From {
		t.Errorf("Days(%d) = %d, not %d", m, n, want.To-want.From)
	}
}

func checkOverlap(t *testing.T, m int, r api.DateRange, want int) {
	t.Helper()
	if n := Overlap(m, r); n != want {
		t.Errorf("Overlap(%d, %v) = %d, not %d", m, r, n, want)
	}
}

func checkPayDate(t *testing.T, m int, c api.Calendar, day, want int, code api.Errno) {
	t.Helper()
	if got, e := PayDate(m, c, day); got != want || e != code {
		t.Errorf("PayDate(%d, %v, %d) = %d, %d, not %d, %d", m, c, day, got, e, want, code)
	}
}

func checkFormat(t *testing.T, m int, want string) {
	t.Helper()
	if s := Format(m); s != want {
		t.Errorf("Format(%d) = %q, not %q", m, s, want)
	}
}

func checkParse(t *testing.T, s string, want int, code api.Errno) {
	t.Helper()
	if m, e := Parse(s); m != want || e != code {
		t.Errorf("Parse(%q) = %d, %d, not %d, %d", s, m, e, want, code)
	}
}

// pays checks a payment date between texts.
func pays(t *testing.T, month string, c api.Calendar, day int, want string) {
	t.Helper()
	checkPayDate(t, monthOf(t, month), c, day, dateOf(t, want), api.OK)
}

// The chapter's examples.
func TestExamples(t *testing.T) {
	checkFromDate(t, dateOf(t, "2024-02-29"), 1489)
	checkFormat(t, 1489, "2024-02")
	if n := Days(1489); n != 29 {
		t.Errorf("Days(1489) = %d, not 29", n)
	}
	pays(t, "2024-03", weekend, 31, "2024-03-29")
	if date.Weekday(dateOf(t, "2024-03-29")) != 4 {
		t.Error("2024-03-29 is a Friday")
	}
}

// P7.1: the first and the last month, and the dates about the ends of months and years.
func TestFromDate(t *testing.T) {
	for _, x := range []struct {
		day, month int
	}{
		{0, 0}, {1, 0}, {30, 0}, {31, 1}, {58, 1}, {59, 2}, {364, 11}, {365, 12}, {366, 12},
		{lastDate, lastMonth}, {lastDate - 1, lastMonth}, {lastDate - 30, lastMonth}, {lastDate - 31, lastMonth - 1}, {lastDate - 60, lastMonth - 1}, {lastDate - 61, lastMonth - 2}, {lastDate - 364, lastMonth - 11}, {lastDate - 365, lastMonth - 12},
	} {
		checkFromDate(t, x.day, x.month)
	}
	for _, x := range []struct {
		day   string
		month int
	}{
		{"1999-12-31", 1199}, {"2000-01-01", 1200}, {"2000-01-31", 1200}, {"2000-02-01", 1201}, {"2000-02-29", 1201}, {"2000-03-01", 1202}, {"2024-02-01", 1489}, {"2024-03-01", 1490}, {"2100-02-28", 2401}, {"2100-03-01", 2402},
	} {
		checkFromDate(t, dateOf(t, x.day), x.month)
	}
}

// P7.1: what is no date lies in no month.
func TestFromWrongDate(t *testing.T) {
	for _, day := range wrongDates {
		checkFromDate(t, day, -1)
	}
}

// P7.1 and P7.5: every date against the library's calendar.
func TestFromEveryDate(t *testing.T) {
	day := time.Date(1900, time.January, 1, 0, 0, 0, 0, time.UTC)
	for n := range end {
		checkFromDate(t, n, (day.Year()-1900)*12+int(day.Month())-1)
		day = day.AddDate(0, 0, 1)
	}
	if day.Year() != 2200 {
		t.Errorf("the last date is not the last one of 2199: %v follows", day)
	}
}

// P7.1: the first and the last month and those about February.
func TestRange(t *testing.T) {
	checkRange(t, 0, r(0, 31), api.OK)
	checkRange(t, 1, r(31, 59), api.OK)
	checkRange(t, 2, r(59, 90), api.OK)
	checkRange(t, 11, r(334, 365), api.OK)
	checkRange(t, 12, r(365, 396), api.OK)
	checkRange(t, 1489, r(dateOf(t, "2024-02-01"), dateOf(t, "2024-03-01")), api.OK)
	checkRange(t, lastMonth, r(lastDate-30, end), api.OK)
	checkRange(t, lastMonth-1, r(lastDate-60, lastDate-30), api.OK)
}

// P7.1: February has 29 days in leap years, which 1900 and 2100 are not and 2000 is.
func TestFebruary(t *testing.T) {
	for y := 1900; y <= 2199; y++ {
		want := 28
		if y%4 == 0 && y != 1900 && y != 2100 {
			want = 29
		}
		if n := Days((y-1900)*12 + 1); n != want {
			t.Errorf("February %d has %d days, not %d", y, n, want)
		}
	}
}

// P7.1: no range and no days of what is no month.
func TestRangeOfWrongMonth(t *testing.T) {
	for _, m := range wrongMonths {
		checkRange(t, m, api.DateRange{}, api.ErrRange)
	}
}

// P7.1, P7.4 and P7.5: every month of 1900 to 2199 against package date.
func TestEveryMonth(t *testing.T) {
	m := 0
	for y := 1900; y <= 2199; y++ {
		for monthOfYear := 1; monthOfYear <= 12; monthOfYear++ {
			first, code := date.FromYMD(y, monthOfYear, 1)
			if code != api.OK {
				t.Fatal(y, monthOfYear, code)
			}
			days := date.DaysInMonth(y, monthOfYear)
			checkRange(t, m, r(first, first+days), api.OK)
			checkFromDate(t, first, m)
			checkFromDate(t, first+days-1, m)
			text := fmt.Sprintf("%04d-%02d", y, monthOfYear)
			checkFormat(t, m, text)
			checkParse(t, text, m, api.OK)
			m++
		}
	}
	if m != lastMonth+1 {
		t.Errorf("there are %d months, not %d", m, lastMonth+1)
	}
}

// P7.5: the months follow each other without a gap from date 0 to MaxDate, and FromDate finds the dates of each.
func TestPartition(t *testing.T) {
	next := 0
	for m := range lastMonth + 1 {
		dates, code := Range(m)
		if code != api.OK || dates.From != next || dates.To <= next || dates.To-dates.From != Days(m) {
			t.Fatalf("Range(%d) = %v, %d, Days(%d) = %d after %d", m, dates, code, m, Days(m), next)
		}
		for day := dates.From; day < dates.To; day++ {
			checkFromDate(t, day, m)
		}
		next = dates.To
	}
	if next != end {
		t.Errorf("the months end at %d, not at %d", next, end)
	}
}

// P7.2: ranges that lie within a month, across several, beside it, and that touch it.
func TestOverlap(t *testing.T) {
	from, to := dateOf(t, "2024-02-01"), dateOf(t, "2024-03-01")
	for _, x := range []struct {
		r    api.DateRange
		want int
	}{
		{r(from, to), 29}, {r(from, to-1), 28}, {r(from+1, to), 28}, {r(from+1, to-1), 27}, {r(from-1, to+1), 29}, {r(from-1, to-1), 28}, {r(from+1, to+1), 28}, {r(from-400, to+400), 29}, {r(0, end), 29}, {r(from, end), 29}, {r(0, to), 29},
		{r(from, from+1), 1}, {r(from+10, from+15), 5}, {r(to-1, to), 1}, {r(from-40, from+1), 1}, {r(to-1, to+40), 1}, {r(0, from+7), 7}, {r(to-7, end), 7}, {r(from+19, to+4), 10},
		{r(from-31, from), 0}, {r(from-1, from), 0}, {r(to, to+1), 0}, {r(to, to+31), 0}, {r(0, from), 0}, {r(to, end), 0}, {r(0, 29), 0}, {r(end-29, end), 0},
		{r(from, from), 0}, {r(from+10, from+10), 0}, {r(to, to), 0}, {r(to-1, to-1), 0}, {r(0, 0), 0}, {r(end, end), 0},
	} {
		checkOverlap(t, 1489, x.r, x.want)
	}
	checkOverlap(t, 0, r(0, end), 31)
	checkOverlap(t, 0, r(0, 1), 1)
	checkOverlap(t, 0, r(30, 32), 1)
	checkOverlap(t, 0, r(31, 59), 0)
	checkOverlap(t, lastMonth, r(0, end), 31)
	checkOverlap(t, lastMonth, r(lastDate, end), 1)
	checkOverlap(t, lastMonth, r(lastDate-31, lastDate-29), 1)
	checkOverlap(t, lastMonth, r(lastDate-60, lastDate-30), 0)
}

// P7.2: nothing is common to a range that is not valid, or to what is no month.
func TestOverlapWrong(t *testing.T) {
	for _, m := range someMonths {
		for _, x := range wrongRanges {
			checkOverlap(t, m, x, 0)
		}
		dates, _ := Range(m)
		checkOverlap(t, m, r(dates.To, dates.From), 0)
		checkOverlap(t, m, r(dates.From+1, dates.From), 0)
		checkOverlap(t, m, r(dates.From, -1), 0)
		checkOverlap(t, m, r(dates.From, end+1), 0)
		checkOverlap(t, m, r(-1, dates.To), 0)
		checkOverlap(t, m, r(dates.From-1<<32, dates.To), 0)
	}
	for _, m := range wrongMonths {
		for _, x := range slices.Concat([]api.DateRange{r(0, end), r(0, 31), r(0, 1), r(0, 0), r(lastDate-30, end), r(lastDate, end), r(end, end), r(31, 59)}, wrongRanges) {
			checkOverlap(t, m, x, 0)
		}
	}
}

// wantOverlap counts the dates of a range that lie in a month by going through them.
func wantOverlap(m int, r api.DateRange) int {
	n := 0
	for day := r.From; day < r.To; day++ {
		y, monthOfYear, _ := date.ToYMD(day)
		if (y-1900)*12+monthOfYear-1 == m {
			n++
		}
	}
	return n
}

// P7.2: all ranges with ends about those of some months, counted date by date.
func TestOverlapAgainstDefinition(t *testing.T) {
	for _, m := range someMonths {
		dates, _ := Range(m)
		var ends []int
		for _, d := range []int{dates.From - 32, dates.From - 1, dates.From, dates.From + 1, dates.From + 14, dates.To - 2, dates.To - 1, dates.To, dates.To + 1, dates.To + 32} {
			if d >= 0 && d <= end {
				ends = append(ends, d)
			}
		}
		for i, from := range ends {
			for _, to := range ends[i:] {
				for other := max(m-2, 0); other <= min(m+2, lastMonth); other++ {
					checkOverlap(t, other, r(from, to), wantOverlap(other, r(from, to)))
				}
			}
		}
	}
}

// P7.5: what a month has in common with the parts of a range adds up to what it has in common with the range.
func TestOverlapOfParts(t *testing.T) {
	source := rand.New(rand.NewSource(75))
	for range 20000 {
		m := source.Intn(lastMonth + 1)
		dates, _ := Range(m)
		cuts := make([]int, 4)
		for i := range cuts {
			cuts[i] = min(max(dates.From-20+source.Intn(71), 0), end)
		}
		slices.Sort(cuts)
		sum := 0
		for i := range cuts[1:] {
			sum += Overlap(m, r(cuts[i], cuts[i+1]))
		}
		checkOverlap(t, m, r(cuts[0], cuts[3]), sum)
	}
	for _, m := range someMonths {
		for cut := range end + 1 {
			if before, after := Overlap(m, r(0, cut)), Overlap(m, r(cut, end)); before+after != Days(m) {
				t.Fatalf("month %d has %d days before %d and %d from it on", m, before, cut, after)
			}
		}
	}
}

// P7.5: what the months have in common with a range adds up to its length.
func TestOverlapOfAllMonths(t *testing.T) {
	source := rand.New(rand.NewSource(76))
	ranges := []api.DateRange{r(0, end), r(0, 0), r(end, end), r(0, 1), r(lastDate, end), r(30, 32)}
	for range 40 {
		from := source.Intn(end + 1)
		ranges = append(ranges, r(from, from+source.Intn(end+1-from)))
	}
	for _, x := range ranges {
		sum := 0
		for m := range lastMonth + 1 {
			sum += Overlap(m, x)
		}
		if sum != x.To-x.From {
			t.Errorf("the months have %d dates in common with %v", sum, x)
		}
	}
}

// P7.3: the day itself if it is a working day, and the last one before it otherwise.
func TestPayDate(t *testing.T) {
	pays(t, "2024-03", weekend, 1, "2024-03-01")
	pays(t, "2024-03", weekend, 2, "2024-03-01")
	pays(t, "2024-03", weekend, 3, "2024-03-01")
	pays(t, "2024-03", weekend, 4, "2024-03-04")
	pays(t, "2024-03", weekend, 15, "2024-03-15")
	pays(t, "2024-03", weekend, 17, "2024-03-15")
	pays(t, "2024-03", weekend, 29, "2024-03-29")
	pays(t, "2024-03", weekend, 30, "2024-03-29")
	goodFriday := dateOf(t, "2024-03-29")
	pays(t, "2024-03", calendar(96, goodFriday), 31, "2024-03-28")
	pays(t, "2024-03", calendar(96, goodFriday-1, goodFriday), 31, "2024-03-27")
	pays(t, "2024-03", calendar(96, goodFriday-1), 31, "2024-03-29")
	pays(t, "2024-03", calendar(96, goodFriday-1), 28, "2024-03-27")
	pays(t, "2024-03", calendar(0), 31, "2024-03-31")
	pays(t, "2024-03", calendar(sunday), 31, "2024-03-30")
	pays(t, "2024-03", calendar(0, goodFriday+2), 31, "2024-03-30")
}

// P7.3: the day is reduced to the length of the month.
func TestPayDateOfShortMonths(t *testing.T) {
	for _, x := range []struct {
		month string
		last  int
	}{
		{"2024-01", 31}, {"2024-02", 29}, {"2023-02", 28}, {"1900-02", 28}, {"2000-02", 29}, {"2100-02", 28}, {"2024-04", 30}, {"2024-06", 30}, {"2024-09", 30}, {"2024-11", 30}, {"2024-12", 31}, {"1900-01", 31}, {"2199-12", 31}, {"2199-11", 30}, {"2199-02", 28},
	} {
		for day := 1; day <= 31; day++ {
			pays(t, x.month, calendar(0), day, fmt.Sprintf("%s-%02d", x.month, min(day, x.last)))
		}
	}
	// 30 April 2024 is a Tuesday, 30 June 2024 a Sunday, 29 February 2024 a Thursday.
	pays(t, "2024-04", weekend, 31, "2024-04-30")
	pays(t, "2024-06", weekend, 31, "2024-06-28")
	pays(t, "2024-02", weekend, 30, "2024-02-29")
	pays(t, "2024-02", calendar(96, dateOf(t, "2024-02-29")), 31, "2024-02-28")
	pays(t, "2024-02", calendar(96, dateOf(t, "2024-03-01")), 31, "2024-02-29")
}

// P7.3: the last working day may lie in an earlier month or year.
func TestPayDateInEarlierMonth(t *testing.T) {
	pays(t, "2024-06", weekend, 1, "2024-05-31")
	pays(t, "2024-06", weekend, 2, "2024-05-31")
	pays(t, "2024-01", calendar(96, dateOf(t, "2024-01-01")), 1, "2023-12-29")
	pays(t, "2000-01", weekend, 2, "1999-12-31")
	pays(t, "2024-03", calendar(0, dateOf(t, "2024-02-29"), dateOf(t, "2024-03-01")), 1, "2024-02-28")
	// All of March 2024 is free, and with it the end of February, or two months before it.
	march := dateOf(t, "2024-03-01")
	for _, day := range []int{1, 2, 15, 30, 31} {
		pays(t, "2024-03", calendar(0, sequence(march, 1, 31)...), day, "2024-02-29")
		pays(t, "2024-03", calendar(96, sequence(march, 1, 31)...), day, "2024-02-29")
		pays(t, "2024-03", calendar(0, sequence(march-10, 1, 41)...), day, "2024-02-19")
		pays(t, "2024-03", calendar(sunday, sequence(march-10, 1, 41)...), day, "2024-02-19")
		pays(t, "2024-03", calendar(1|sunday, sequence(march-10, 1, 41)...), day, "2024-02-17")
		pays(t, "2024-03", calendar(0, sequence(march-33, 1, api.MaxHolidays)...), day, "2024-01-27")
	}
	pays(t, "2024-03", calendar(0, sequence(march, 1, 30)...), 31, "2024-03-31")
	pays(t, "2024-03", calendar(0, sequence(march, 1, 30)...), 30, "2024-02-29")
	pays(t, "2024-03", calendar(0, sequence(march+1, 1, 30)...), 31, "2024-03-01")
}

// P7.3: of a weekend of six days, the one working weekday is up to six days back, or a week more for each holiday on it.
func TestPayDateOfOneWeekday(t *testing.T) {
	for works := range 7 {
		c := calendar(127 &^ (1 << works))
		for _, m := range []int{1, 12, 1489, 1490, lastMonth} {
			dates, _ := Range(m)
			for day := 1; day <= Days(m); day++ {
				target := dates.From + day - 1
				want := target - (target-works)%7
				checkPayDate(t, m, c, day, want, api.OK)
				if m <= 12 {
					continue
				}
				free := c
				free.Holidays = sequence(want-7*(api.MaxHolidays-1), 7, api.MaxHolidays)
				checkPayDate(t, m, free, day, want-7*api.MaxHolidays, api.OK)
			}
		}
	}
}

// P7.3: near date 0 there may be no working day.
func TestPayDateNotFound(t *testing.T) {
	checkPayDate(t, 0, calendar(0), 1, 0, api.OK)
	checkPayDate(t, 0, calendar(1), 1, 0, api.ErrNotFound)
	checkPayDate(t, 0, calendar(0, 0), 1, 0, api.ErrNotFound)
	checkPayDate(t, 0, calendar(0, 0), 2, 1, api.OK)
	checkPayDate(t, 0, calendar(0, 1), 2, 0, api.OK)
	checkPayDate(t, 0, calendar(0, 0, 1), 2, 0, api.ErrNotFound)
	checkPayDate(t, 0, calendar(1, 1), 2, 0, api.ErrNotFound)
	checkPayDate(t, 0, calendar(63), 6, 0, api.ErrNotFound)
	checkPayDate(t, 0, calendar(63), 7, 6, api.OK)
	checkPayDate(t, 0, calendar(63, 6), 13, 0, api.ErrNotFound)
	checkPayDate(t, 0, calendar(63, 6), 14, 13, api.OK)
	checkPayDate(t, 0, calendar(126), 7, 0, api.OK)
	checkPayDate(t, 0, calendar(126, 0), 7, 0, api.ErrNotFound)
	checkPayDate(t, 0, calendar(126, 0, 7, 14, 21, 28), 31, 0, api.ErrNotFound)
	checkPayDate(t, 1, calendar(126, 0, 7, 14, 21, 28), 4, 0, api.ErrNotFound)
	checkPayDate(t, 1, calendar(126, 0, 7, 14, 21, 28), 5, 35, api.OK)
	checkPayDate(t, 1, calendar(126, 7, 14, 21, 28), 4, 0, api.OK)
	row := sequence(0, 1, api.MaxHolidays)
	for day := 1; day <= 31; day++ {
		checkPayDate(t, 0, calendar(0, row...), day, 0, api.ErrNotFound)
		checkPayDate(t, 1, calendar(0, row...), day, 0, api.ErrNotFound)
		checkPayDate(t, 0, calendar(0, row[1:]...), day, 0, api.OK)
		checkPayDate(t, 1, calendar(1, row[1:]...), day, 0, api.ErrNotFound)
	}
	// March begins on day 59 and day 64 is the first that works.
	checkPayDate(t, 2, calendar(0, row...), 5, 0, api.ErrNotFound)
	checkPayDate(t, 2, calendar(0, row...), 6, api.MaxHolidays, api.OK)
	// With 64 Sundays free, the first that works lies in March 1901.
	sundays := calendar(63, sequence(6, 7, api.MaxHolidays)...)
	checkPayDate(t, 14, sundays, 30, 0, api.ErrNotFound)
	checkPayDate(t, 14, sundays, 31, 6+7*api.MaxHolidays, api.OK)
	checkPayDate(t, 13, sundays, 31, 0, api.ErrNotFound)
}

// isFree says whether a date is of the weekend or a holiday.
func isFree(c api.Calendar, day int) bool {
	return c.Weekend&(1<<(day%7)) != 0 || slices.Contains(c.Holidays, day)
}

// wantPayDate finds the payment date by the words of the promise: the greatest of the working days up to the day.
func wantPayDate(t *testing.T, m int, c api.Calendar, day int) (int, api.Errno) {
	t.Helper()
	y, monthOfYear := 1900+m/12, m%12+1
	target, code := date.FromYMD(y, monthOfYear, min(day, date.DaysInMonth(y, monthOfYear)))
	if code != api.OK {
		t.Fatal(m, day, code)
	}
	want, code := 0, api.ErrNotFound
	// In 600 days each weekday comes more often than there are holidays.
	for d := max(target-600, 0); d <= target; d++ {
		if !isFree(c, d) {
			want, code = d, api.OK
		}
	}
	return want, code
}

// rightCalendars are valid ones: with every weekend, and with holidays at both ends, in some months, and close together anywhere.
func rightCalendars(source *rand.Rand) []api.Calendar {
	var all []api.Calendar
	for w := range 127 {
		all = append(all, calendar(w))
	}
	for _, w := range []int{0, 1, sunday, saturday | sunday, 63, 95, 126} {
		for _, l := range [][]int{{0}, {lastDate}, {0, lastDate}, sequence(0, 1, api.MaxHolidays), sequence(0, 7, api.MaxHolidays), sequence(lastDate-api.MaxHolidays+1, 1, api.MaxHolidays), sequence(lastDate-7*(api.MaxHolidays-1), 7, api.MaxHolidays), sequence(45351-31, 1, 62), sequence(45351, 1, 31)} {
			all = append(all, calendar(w, l...))
		}
	}
	for i := range 300 {
		c := calendar(source.Intn(127))
		start := []int{0, lastDate - 120, 45290}[i%3]
		for d := range 120 {
			if len(c.Holidays) < api.MaxHolidays && source.Intn(1+i%4) == 0 {
				c.Holidays = append(c.Holidays, start+d)
			}
		}
		all = append(all, c)
	}
	return all
}

// P7.3: many calendars, months and days against the words of the promise.
func TestPayDateAgainstDefinition(t *testing.T) {
	source := rand.New(rand.NewSource(73))
	for _, c := range rightCalendars(source) {
		for _, m := range []int{0, 1, 2, 3, 13, 1201, 1488, 1489, 1490, 1491, lastMonth - 1, lastMonth} {
			for _, day := range []int{1, 2, 7, 1 + source.Intn(31), 28, 29, 30, 31} {
				want, code := wantPayDate(t, m, c, day)
				checkPayDate(t, m, c, day, want, code)
			}
		}
	}
	for m := range lastMonth + 1 {
		for _, day := range []int{1, 15, 31} {
			want, code := wantPayDate(t, m, weekend, day)
			checkPayDate(t, m, weekend, day, want, code)
		}
	}
}

// wrongCalendars are invalid for one reason each.
func wrongCalendars() []api.Calendar {
	all := []api.Calendar{
		calendar(-1), calendar(127), calendar(128), calendar(255), calendar(256), calendar(-96), calendar(1<<32 | 96), calendar(math.MinInt), calendar(math.MaxInt),
		calendar(96, 5, 5), calendar(96, 7, 6), calendar(0, 0, 0), calendar(0, 1, 2, 2), calendar(0, 1, 3, 2), calendar(0, lastDate, 0),
		calendar(0, -1), calendar(0, end), calendar(96, 5, end), calendar(96, -1, 5), calendar(0, math.MinInt), calendar(0, math.MaxInt), calendar(0, 0, math.MaxInt),
		calendar(0, sequence(0, 1, api.MaxHolidays+1)...), calendar(96, sequence(lastDate-api.MaxHolidays, 1, api.MaxHolidays+1)...), calendar(96, sequence(0, 1, 300)...),
	}
	return all
}

// P7.3: an invalid calendar or day is reported ahead of what is no month, and that ahead of there being no working day.
func TestPayDateErrors(t *testing.T) {
	allFree := calendar(0, sequence(0, 1, api.MaxHolidays)...)
	for _, c := range wrongCalendars() {
		for _, m := range slices.Concat([]int{0, 1489, lastMonth}, wrongMonths) {
			for _, day := range slices.Concat([]int{1, 15, 31}, wrongDays) {
				checkPayDate(t, m, c, day, 0, api.ErrArg)
			}
		}
	}
	for _, c := range []api.Calendar{calendar(0), weekend, calendar(126), allFree} {
		for _, day := range wrongDays {
			for _, m := range slices.Concat([]int{0, 1, 1489, lastMonth}, wrongMonths) {
				checkPayDate(t, m, c, day, 0, api.ErrArg)
			}
		}
		for day := 1; day <= 31; day++ {
			for _, m := range wrongMonths {
				checkPayDate(t, m, c, day, 0, api.ErrRange)
			}
		}
	}
}

// P7.3: the calendar that was given, and what lies behind its holidays, stays as it was.
func TestCalendarUnchanged(t *testing.T) {
	for _, c := range slices.Concat(rightCalendars(rand.New(rand.NewSource(74))), wrongCalendars()) {
		behind := append(slices.Clone(c.Holidays), 3, 1, 2, 9)
		before := slices.Clone(behind)
		given := api.Calendar{Weekend: c.Weekend, Holidays: behind[:len(c.Holidays)]}
		for _, m := range []int{-1, 0, 1, 1490, lastMonth, lastMonth + 1} {
			for _, day := range []int{0, 1, 31, 32} {
				got, code := PayDate(m, given, day)
				if again, e := PayDate(m, given, day); again != got || e != code {
					t.Errorf("PayDate(%d, %v, %d) = %d, %d and then %d, %d", m, c, day, got, code, again, e)
				}
			}
		}
		if !slices.Equal(behind, before) || given.Weekend != c.Weekend || len(given.Holidays) != len(c.Holidays) {
			t.Errorf("%v became %v", c, given)
		}
	}
	for _, day := range []int{1, 31} {
		none, code := PayDate(1490, api.Calendar{Weekend: 96, Holidays: nil}, day)
		checkPayDate(t, 1490, api.Calendar{Weekend: 96, Holidays: []int{}}, day, none, code)
	}
}

// P7.4: the first and the last months.
func TestFormat(t *testing.T) {
	for m, want := range []string{"1900-01", "1900-02", "1900-03", "1900-04", "1900-05", "1900-06", "1900-07", "1900-08", "1900-09", "1900-10", "1900-11", "1900-12", "1901-01"} {
		checkFormat(t, m, want)
	}
	checkFormat(t, 1199, "1999-12")
	checkFormat(t, 1200, "2000-01")
	checkFormat(t, lastMonth-12, "2198-12")
	checkFormat(t, lastMonth-11, "2199-01")
	checkFormat(t, lastMonth-1, "2199-11")
	checkFormat(t, lastMonth, "2199-12")
	for _, m := range wrongMonths {
		checkFormat(t, m, "")
	}
}

// P7.4: texts of the form whose numbers are those of no month.
func TestParseRange(t *testing.T) {
	for _, s := range []string{
		"2024-00", "2024-13", "2024-14", "2024-20", "2024-99", "1899-12", "1899-01", "1899-13", "2200-01", "2200-12", "2200-00", "1900-00", "1900-13", "2199-13", "2199-00", "0000-00", "0000-01", "0001-01", "0124-02", "1000-01", "9999-12", "9999-99", "3600-01",
	} {
		checkParse(t, s, 0, api.ErrRange)
	}
	checkParse(t, "1900-01", 0, api.OK)
	checkParse(t, "1900-12", 11, api.OK)
	checkParse(t, "2199-01", lastMonth-11, api.OK)
	checkParse(t, "2199-12", lastMonth, api.OK)
}

// P7.4: every text of four digits, a hyphen and two digits.
func TestParseDigits(t *testing.T) {
	for y := range 10000 {
		for m := range 100 {
			got, code := Parse(fmt.Sprintf("%04d-%02d", y, m))
			want, wantCode := 0, api.ErrRange
			if y >= 1900 && y <= 2199 && m >= 1 && m <= 12 {
				want, wantCode = (y-1900)*12+m-1, api.OK
			}
			if got != want || code != wantCode {
				t.Fatalf("Parse(%04d-%02d) = %d, %d", y, m, got, code)
			}
		}
	}
}

// P7.4: texts that are not of the form, also where their numbers would be out of range.
func TestParseFormat(t *testing.T) {
	for _, s := range []string{
		"", "-", "2", "2024", "2024-", "2024-0", "2024-2", "024-02", "24-02", "2024-022", "2024-02-", "2024-02-01", "12024-02", "02024-02", "2024--2", "2024-02\n", "2024-02 ", " 2024-02", " 024-02", "2024- 2", "2024-2 ", "2024 02", "2024/02", "2024.02", "2024_02", "202402", "2024002", "20240-2", "202-402", "2024-0x", "2024-x2", "x024-02", "202x-02", "-024-02", "+024-02", "2024-+2", "2024-é", "é024-0", "2024é2", "202é-02", "2024-−", "2024-Ⅱ", "２024-02", "202４-2", "٢-02", "2024‐0", "20\x00-02", "2024-0\x00", "2024\x0002", "1_00-01", "0x76-01", "1e3.-01", "2024-1_", "2024-.1", "2024-1.", "1.24-02", "1899-1x", "x899-13", "2200-0", "2024-13 ", "2024-130", "13-2024", "02-2024", "Feb2024",
		"2024-0\xff", "\xff024-02", "2024\xff02", "2024-\n2", "-2024-02", "2024-02-29", "2024-02-01-01", "2024-02-0", strings.Repeat("2024-02", 2), strings.Repeat("0", 7), strings.Repeat("-", 7), strings.Repeat("0", 10000),
	} {
		checkParse(t, s, 0, api.ErrFormat)
	}
}

// P7.4: every byte in every place of a text, and every length of one.
func TestParseBytes(t *testing.T) {
	for _, good := range []string{"2024-02", "1900-01", "2199-12", "1899-12", "2024-13"} {
		for i := range good {
			for b := range 256 {
				s := good[:i] + string([]byte{byte(b)}) + good[i+1:]
				got, code := Parse(s)
				if !monthForm.MatchString(s) && (got != 0 || code != api.ErrFormat) {
					t.Errorf("Parse(%q) = %d, %d", s, got, code)
				}
				if monthForm.MatchString(s) && code == api.ErrFormat {
					t.Errorf("Parse(%q) fails with %d", s, code)
				}
				inserted := good[:i] + string([]byte{byte(b)}) + good[i:]
				checkParse(t, inserted, 0, api.ErrFormat)
			}
			checkParse(t, good[:i], 0, api.ErrFormat)
			checkParse(t, good[i+1:], 0, api.ErrFormat)
			checkParse(t, good[:i]+good[i+1:], 0, api.ErrFormat)
		}
	}
}

// P7.5: Parse takes back what Format writes, and Format writes what Parse takes.
func TestParseFormatInverse(t *testing.T) {
	for m := range lastMonth + 1 {
		checkParse(t, Format(m), m, api.OK)
	}
	for y := 1890; y < 2210; y++ {
		for monthOfYear := range 20 {
			s := fmt.Sprintf("%04d-%02d", y, monthOfYear)
			if m, code := Parse(s); code == api.OK {
				checkFormat(t, m, s)
			}
		}
	}
}
