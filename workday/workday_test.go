package workday

import (
	"math"
	"math/rand"
	"slices"
	"testing"

	"guerdon/api"
)

const (
	last = api.MaxDate
	// end is the To of the ranges that contain the last date.
	end      = last + 1
	saturday = 1 << 5
	sunday   = 1 << 6
)

var (
	// example is the calendar of the chapter's examples.
	example = calendar(saturday|sunday, 7)
	plain   = calendar(saturday | sunday)
	// wrongWeekends are those that no valid calendar has, the nearest ones first.
	wrongWeekends = []int{-1, 127, -2, 128, 129, 223, 224, 255, 256, -96, -127, -128, 1<<32 | 96, 1 << 32, -1 << 32, math.MinInt, math.MinInt + 96, math.MaxInt, math.MaxInt - 31}
	// wrongDates are dates that are not valid, the nearest ones first.
	wrongDates = []int{-1, end, -2, -7, end + 1, end + 7, -end, 1 << 32, 1<<32 + 4, -1 << 32, math.MinInt, math.MinInt + 1, math.MaxInt - 1, math.MaxInt}
	wrongNs    = []int{-1, 366, -2, 367, -365, 1000, 1 << 32, 1<<32 + 1, -1 << 32, math.MinInt, math.MinInt + 1, math.MaxInt - 1, math.MaxInt}
	rightNs    = []int{0, 1, 2, 5, 6, 7, 30, 260, 364, 365}
	// someWeekends have no day, one day, the usual two, all but one, and some in between.
	someWeekends = []int{0, 1, 2, saturday, sunday, saturday | sunday, 1<<4 | saturday, 21, 63, 85, 95, 111, 125, 126}
	wrongRanges  = []api.DateRange{
		r(-1, 0), r(-1, 14), r(-7, 14), r(14, 0), r(8, 7), r(0, -1), r(0, end+1), r(14, end+1), r(end, end+1), r(end+1, end+1), r(end, last), r(end+1, end), r(-1, end), r(-1, -1), r(-20, -6),
		r(1<<32, 1<<32+14), r(0, 1<<32), r(-1<<32, 14), r(math.MinInt, 14), r(0, math.MaxInt), r(math.MinInt, math.MaxInt), r(math.MaxInt, math.MinInt), r(math.MinInt, math.MinInt), r(math.MaxInt, math.MaxInt), r(14, math.MinInt), r(math.MaxInt, 14),
	}
)

func r(from, to int) api.DateRange { return api.DateRange{From: from, To: to} }

func calendar(weekend int, holidays ...int) api.Calendar {
	return api.Calendar{Weekend: weekend, Holidays: holidays}
}

// sequence lists n numbers from a first one on, each a step after the one before it.
func sequence(first, step, n int) []int {
	l := make([]int, n)
	for i := range l {
		l[i] = first + i*step
	}
	return l
}

// wrongCalendars are invalid for one reason each.
func wrongCalendars() []api.Calendar {
	var all []api.Calendar
	for _, w := range wrongWeekends {
		all = append(all, calendar(w), calendar(w, 7))
	}
	for _, l := range wrongHolidays() {
		all = append(all, calendar(96, l...), calendar(0, l...))
	}
	return all
}

// wrongHolidays lists holidays that no valid calendar has.
func wrongHolidays() [][]int {
	all := [][]int{
		{5, 5}, {0, 0}, {last, last}, {7, 6}, {last, 0}, {1, 2, 2}, {2, 2, 3}, {1, 3, 2}, {3, 1, 2}, {3, 2, 1}, {1, 2, 1}, {0, 10, 20, 20, 30}, {0, 10, 20, 19, 30},
		sequence(0, 1, api.MaxHolidays+1), sequence(last-api.MaxHolidays, 1, api.MaxHolidays+1), sequence(0, 1, 2*api.MaxHolidays), sequence(0, 1, 300), sequence(0, 0, api.MaxHolidays), sequence(api.MaxHolidays, -1, api.MaxHolidays),
	}
	for _, d := range wrongDates {
		all = append(all, []int{d})
		if d < 0 {
			all = append(all, []int{d, 5}, []int{d, 0, last})
		} else {
			all = append(all, []int{5, d}, []int{0, last, d})
		}
	}
	for i := range api.MaxHolidays {
		equal := sequence(100, 3, api.MaxHolidays)
		equal[i] = equal[max(i-1, 0)]
		if i == 0 {
			equal[0] = equal[1]
		}
		less := sequence(100, 3, api.MaxHolidays)
		less[i] -= 4
		if i == 0 {
			less[0] = -1
		}
		all = append(all, equal, less)
	}
	return all
}

// rightHolidays lists holidays of valid calendars: none, those at the ends of the dates, and as many as there may be.
func rightHolidays() [][]int {
	return [][]int{
		nil, {}, {0}, {1}, {7}, {last}, {0, last}, {0, 1}, {last - 1, last}, {3, 4, 5, 6, 7, 8, 9}, sequence(0, 7, 10), sequence(last-20, 1, 21),
		sequence(0, 1, api.MaxHolidays-1), sequence(0, 1, api.MaxHolidays), sequence(last-api.MaxHolidays+1, 1, api.MaxHolidays), sequence(2, 7, api.MaxHolidays), sequence(10, 2, api.MaxHolidays), sequence(last-7*(api.MaxHolidays-1), 7, api.MaxHolidays), sequence(0, 1739, api.MaxHolidays),
	}
}

// rightCalendars are valid ones, with each of the holidays under each of the weekends.
func rightCalendars() []api.Calendar {
	var all []api.Calendar
	for _, w := range someWeekends {
		for _, l := range rightHolidays() {
			all = append(all, calendar(w, l...))
		}
	}
	return all
}

// randomCalendars are valid ones with holidays close together at either end of the dates or in between.
func randomCalendars(seed int64, count int) []api.Calendar {
	source := rand.New(rand.NewSource(seed))
	all := make([]api.Calendar, count)
	for i := range all {
		all[i].Weekend = source.Intn(127)
		start := []int{0, last - 120, source.Intn(last - 120)}[i%3]
		for d := range 120 {
			if len(all[i].Holidays) < api.MaxHolidays && source.Intn(1+i%5) == 0 {
				all[i].Holidays = append(all[i].Holidays, start+d)
			}
		}
	}
	return all
}

// edgeDates are dates at both ends and inside, with every weekday in each place.
func edgeDates() []int {
	return slices.Concat(sequence(0, 1, 15), sequence(60, 1, 8), sequence(440, 1, 8), sequence(45349, 1, 7), sequence(last-450, 1, 8), sequence(last-70, 1, 8), sequence(last-14, 1, 15))
}

// isWorking says whether a valid date is a working day of a valid calendar, by the words of the definitions.
func isWorking(c api.Calendar, date int) bool {
	return c.Weekend&(1<<(date%7)) == 0 && !slices.Contains(c.Holidays, date)
}

// wantWorkday finds the n-th working day from a date on by going from date to date.
func wantWorkday(c api.Calendar, from, n int) (int, api.Errno) {
	for d := from; d <= last; d++ {
		if isWorking(c, d) {
			n--
		}
		if n == 0 {
			return d, api.OK
		}
	}
	return 0, api.ErrNotFound
}

func wantCount(c api.Calendar, r api.DateRange) int {
	n := 0
	for d := r.From; d < r.To; d++ {
		if isWorking(c, d) {
			n++
		}
	}
	return n
}

func checkValid(t *testing.T, c api.Calendar, want bool) {
	t.Helper()
	if got := Valid(c); got != want {
		t.Errorf("Valid(%v) = %v", c, got)
	}
}

func checkIsWorkday(t *testing.T, c api.Calendar, date int, want bool) {
	t.Helper()
	if got := IsWorkday(c, date); got != want {
		t.Errorf("IsWorkday(%v, %d) = %v", c, date, got)
	}
}

func checkNext(t *testing.T, c api.Calendar, date, want int, code api.Errno) {
	t.Helper()
	if got, e := Next(c, date); got != want || e != code {
		t.Errorf("Next(%v, %d) = %d, %d, not %d, %d", c, date, got, e, want, code)
	}
}

func checkAdd(t *testing.T, c api.Calendar, date, n, want int, code api.Errno) {
	t.Helper()
	if got, e := Add(c, date, n); got != want || e != code {
		t.Errorf("Add(%v, %d, %d) = %d, %d, not %d, %d", c, date, n, got, e, want, code)
	}
}

func checkCount(t *testing.T, c api.Calendar, r api.DateRange, want int) {
	t.Helper()
	if got := Count(c, r); got != want {
		t.Errorf("Count(%v, %v) = %d, not %d", c, r, got, want)
	}
}

// The chapter's examples.
func TestExamples(t *testing.T) {
	checkValid(t, example, true)
	checkIsWorkday(t, example, 4, true)
	checkIsWorkday(t, example, 5, false)
	checkNext(t, example, 5, 8, api.OK)
	checkAdd(t, example, 4, 1, 8, api.OK)
	checkCount(t, example, r(0, 14), 9)
}

// P6.1: the weekends of valid calendars are 0 to 126.
func TestValidWeekend(t *testing.T) {
	for w := range 127 {
		for _, l := range rightHolidays() {
			checkValid(t, calendar(w, l...), true)
		}
	}
	for _, w := range wrongWeekends {
		for _, l := range rightHolidays() {
			checkValid(t, calendar(w, l...), false)
		}
	}
}

// P6.1: the holidays of valid calendars are valid dates in increasing order, at most MaxHolidays.
func TestValidHolidays(t *testing.T) {
	for _, l := range wrongHolidays() {
		for _, w := range []int{0, 1, 96, 126, -1, 127} {
			checkValid(t, calendar(w, l...), false)
		}
	}
	for first := -2; first <= 2; first++ {
		for second := -2; second <= 3; second++ {
			checkValid(t, calendar(96, first, second), first >= 0 && first < second)
			checkValid(t, calendar(96, last-first, last-second), second >= 0 && second < first)
		}
	}
	for n := range api.MaxHolidays + 6 {
		checkValid(t, calendar(96, sequence(50, 11, n)...), n <= api.MaxHolidays)
	}
}

// P6.1: a working day is neither of the weekend nor a holiday. Bit 0 of the weekend is Monday, and date 0 is one.
func TestIsWorkdayWeekdays(t *testing.T) {
	for w := range 127 {
		for day := range 7 {
			works := w>>day%2 == 0
			for _, monday := range []int{0, 7, 3500, 45346, last - last%7 - 7} {
				checkIsWorkday(t, calendar(w), monday+day, works)
				checkIsWorkday(t, calendar(w, monday+day), monday+day, false)
				checkIsWorkday(t, calendar(w, monday+(day+1)%7), monday+day, works)
			}
		}
		checkIsWorkday(t, calendar(w), last, w>>(last%7)%2 == 0)
		checkIsWorkday(t, calendar(w, last), last, false)
	}
}

// P6.1: what IsWorkday says of each date around the holidays and the ends.
func TestIsWorkdayDates(t *testing.T) {
	dates := edgeDates()
	for _, c := range rightCalendars() {
		for _, d := range slices.Concat(dates, c.Holidays) {
			checkIsWorkday(t, c, d, isWorking(c, d))
		}
	}
	for _, c := range []api.Calendar{example, plain, calendar(0), calendar(126, sequence(0, 1739, api.MaxHolidays)...)} {
		for d := range end {
			if IsWorkday(c, d) != isWorking(c, d) {
				t.Fatalf("IsWorkday(%v, %d) = %v", c, d, !isWorking(c, d))
			}
		}
	}
}

// P6.1: no date is a working day of an invalid calendar, and no invalid date is one of any calendar.
func TestIsWorkdayWrong(t *testing.T) {
	for _, c := range wrongCalendars() {
		for _, d := range []int{0, 1, 2, 3, 4, 5, 6, 7, 45349, last - 1, last, -1, end, math.MinInt, math.MaxInt} {
			checkIsWorkday(t, c, d, false)
		}
	}
	for _, w := range []int{0, 1, 63, 64, 96, 126} {
		for _, d := range wrongDates {
			checkIsWorkday(t, calendar(w), d, false)
			checkIsWorkday(t, calendar(w, 0, 7, last), d, false)
		}
	}
}

// P6.2: the first working day from a date on.
func TestNext(t *testing.T) {
	for day, want := range []int{0, 1, 2, 3, 4, 8, 8, 8, 8, 9, 10, 11, 14, 14, 14} {
		checkNext(t, example, day, want, api.OK)
	}
	// Of a weekend of six days, the one working weekday is up to six days on, or a week more for each holiday on it.
	for free := range 7 {
		c := calendar(127 &^ (1 << free))
		for d := range 7 {
			checkNext(t, c, 700+d, 700+d+(free-d+7)%7, api.OK)
		}
		c.Holidays = sequence(700+free, 7, api.MaxHolidays)
		checkNext(t, c, 700+free, 700+free+7*api.MaxHolidays, api.OK)
		checkNext(t, c, 699+free, 700+free+7*api.MaxHolidays, api.OK)
		checkNext(t, c, 699+free-6, 699+free-6, api.OK)
		checkNext(t, c, 701+free+7*api.MaxHolidays, 700+free+7*api.MaxHolidays+7, api.OK)
	}
	checkNext(t, calendar(0, sequence(0, 1, api.MaxHolidays)...), 0, api.MaxHolidays, api.OK)
	checkNext(t, calendar(0, sequence(0, 1, api.MaxHolidays)...), api.MaxHolidays-1, api.MaxHolidays, api.OK)
	checkNext(t, calendar(0, sequence(1, 1, api.MaxHolidays)...), 0, 0, api.OK)
}

// P6.2: the last date is the last that Next finds. It is a Tuesday.
func TestNextAtTheEnd(t *testing.T) {
	checkNext(t, plain, last, last, api.OK)
	checkNext(t, plain, last-1, last-1, api.OK)
	checkNext(t, calendar(96, last), last, 0, api.ErrNotFound)
	checkNext(t, calendar(96, last), last-1, last-1, api.OK)
	checkNext(t, calendar(96, last-1), last-1, last, api.OK)
	checkNext(t, calendar(96, last-1, last), last-1, 0, api.ErrNotFound)
	checkNext(t, calendar(96, last-1, last), last-3, 0, api.ErrNotFound)
	checkNext(t, calendar(96, last-1, last), last-4, last-4, api.OK)
	tuesday := 1 << (last % 7)
	checkNext(t, calendar(tuesday), last, 0, api.ErrNotFound)
	checkNext(t, calendar(tuesday), last-1, last-1, api.OK)
	checkNext(t, calendar(127&^tuesday), last-6, last, api.OK)
	checkNext(t, calendar(127&^tuesday), last-7, last-7, api.OK)
	checkNext(t, calendar(127&^tuesday, last), last-6, 0, api.ErrNotFound)
	weeks := sequence(last-7*(api.MaxHolidays-1), 7, api.MaxHolidays)
	checkNext(t, calendar(127&^tuesday, weeks...), weeks[0]-6, 0, api.ErrNotFound)
	checkNext(t, calendar(127&^tuesday, weeks...), weeks[0]-7, weeks[0]-7, api.OK)
	checkNext(t, calendar(127&^tuesday, weeks[:api.MaxHolidays-1]...), weeks[0], last, api.OK)
	row := sequence(last-api.MaxHolidays+1, 1, api.MaxHolidays)
	checkNext(t, calendar(0, row...), row[0], 0, api.ErrNotFound)
	checkNext(t, calendar(0, row...), row[0]-1, row[0]-1, api.OK)
}

// P6.2: Next of many dates against the words of the definition.
func TestNextAgainstDefinition(t *testing.T) {
	dates := edgeDates()
	for _, c := range slices.Concat(rightCalendars(), randomCalendars(61, 300)) {
		for _, d := range slices.Concat(dates, c.Holidays) {
			want, code := wantWorkday(c, d, 1)
			checkNext(t, c, d, want, code)
		}
	}
}

// P6.2: an invalid calendar is reported ahead of an invalid date, and that ahead of there being no working day.
func TestNextErrors(t *testing.T) {
	for _, c := range wrongCalendars() {
		for _, d := range slices.Concat([]int{0, 4, 7, last}, wrongDates) {
			checkNext(t, c, d, 0, api.ErrArg)
		}
	}
	for _, d := range wrongDates {
		checkNext(t, calendar(0), d, 0, api.ErrRange)
		checkNext(t, example, d, 0, api.ErrRange)
		checkNext(t, calendar(96, last-1, last), d, 0, api.ErrRange)
		checkNext(t, calendar(126, 0, 7, last), d, 0, api.ErrRange)
	}
}

// P6.3: the n-th working day later than a date, be the date a working day or not.
func TestAdd(t *testing.T) {
	// The working days after the Friday 4 are the Tuesday 8 to the Friday 11, the Monday 14 and so on.
	later := []int{4, 8, 9, 10, 11, 14, 15, 16, 17, 18, 21}
	for n, want := range later {
		checkAdd(t, example, 4, n, want, api.OK)
	}
	for _, d := range []int{5, 6, 7} {
		checkAdd(t, example, d, 0, 8, api.OK)
		for n, want := range later[1:] {
			checkAdd(t, example, d, n+1, want, api.OK)
		}
	}
	checkAdd(t, calendar(0), 0, 1, 1, api.OK)
	checkAdd(t, calendar(0), 0, 365, 365, api.OK)
	checkAdd(t, calendar(0), 1000, 364, 1364, api.OK)
	checkAdd(t, plain, 0, 365, 511, api.OK)
	checkAdd(t, plain, 5, 365, 515, api.OK)
	// Only Sunday works: the 365th is 365 weeks on, and 64 more where 64 of them are holidays.
	checkAdd(t, calendar(63), 6, 365, 6+7*365, api.OK)
	checkAdd(t, calendar(63), 5, 365, 6+7*364, api.OK)
	checkAdd(t, calendar(63, sequence(13, 7, api.MaxHolidays)...), 6, 365, 6+7*(365+api.MaxHolidays), api.OK)
	checkAdd(t, calendar(63, sequence(6, 7, api.MaxHolidays)...), 0, 365, 6+7*(364+api.MaxHolidays), api.OK)
}

// P6.3: if n is 0, Add returns what Next returns.
func TestAddNone(t *testing.T) {
	for _, c := range slices.Concat(rightCalendars(), wrongCalendars(), randomCalendars(62, 100)) {
		for _, d := range slices.Concat(sequence(-2, 1, 20), sequence(last-10, 1, 14), wrongDates) {
			want, code := Next(c, d)
			checkAdd(t, c, d, 0, want, code)
		}
	}
	checkAdd(t, example, 4, 0, 4, api.OK)
	checkAdd(t, example, 7, 0, 8, api.OK)
	checkAdd(t, plain, last, 0, last, api.OK)
	checkAdd(t, calendar(96, last), last, 0, 0, api.ErrNotFound)
	checkAdd(t, calendar(127), -1, 0, 0, api.ErrArg)
	checkAdd(t, plain, -1, 0, 0, api.ErrRange)
	checkAdd(t, plain, end, 0, 0, api.ErrRange)
}

// P6.3: there must be n working days up to the last date, a Tuesday.
func TestAddAtTheEnd(t *testing.T) {
	for _, n := range []int{1, 2, 364, 365} {
		checkAdd(t, plain, last, n, 0, api.ErrNotFound)
		checkAdd(t, calendar(0), last, n, 0, api.ErrNotFound)
		checkAdd(t, calendar(0), last-n, n, last, api.OK)
		checkAdd(t, calendar(0), last-n+1, n, 0, api.ErrNotFound)
		checkAdd(t, calendar(0, last), last-n, n, 0, api.ErrNotFound)
		checkAdd(t, calendar(0, last), last-n-1, n, last-1, api.OK)
		checkAdd(t, calendar(0, last-1), last-n-1, n, last, api.OK)
	}
	checkAdd(t, plain, last-1, 1, last, api.OK)
	checkAdd(t, plain, last-1, 2, 0, api.ErrNotFound)
	checkAdd(t, plain, last-4, 2, last, api.OK)
	checkAdd(t, plain, last-2, 2, last, api.OK)
	checkAdd(t, plain, last-2, 3, 0, api.ErrNotFound)
	// In 73 weeks there are 365 working days.
	checkAdd(t, plain, last-1-7*73, 365, last-1, api.OK)
	checkAdd(t, plain, last-7*73, 365, last, api.OK)
	checkAdd(t, plain, last+1-7*73, 365, 0, api.ErrNotFound)
	checkAdd(t, calendar(127&^(1<<(last%7))), last-7*365, 365, last, api.OK)
	checkAdd(t, calendar(127&^(1<<(last%7))), last-7*365+1, 365, last, api.OK)
	checkAdd(t, calendar(127&^(1<<(last%7))), last-7*364, 365, 0, api.ErrNotFound)
}

// P6.3: Add of many dates and numbers against the words of the definition.
func TestAddAgainstDefinition(t *testing.T) {
	dates := edgeDates()
	for _, c := range slices.Concat(rightCalendars(), randomCalendars(63, 200)) {
		for i, d := range dates {
			n := rightNs[i%len(rightNs)]
			want, code := wantWorkday(c, d+1, n)
			if n == 0 {
				want, code = wantWorkday(c, d, 1)
			}
			checkAdd(t, c, d, n, want, code)
		}
	}
	for _, c := range []api.Calendar{example, calendar(0), calendar(126, 14, 28), calendar(21, sequence(last-63, 1, 60)...)} {
		for _, d := range []int{0, 4, 5, 45349, last - 400, last - 50} {
			for n := 1; n <= 365; n++ {
				want, code := wantWorkday(c, d+1, n)
				checkAdd(t, c, d, n, want, code)
			}
		}
	}
}

// P6.3: an invalid calendar is reported ahead of a date or an n out of range, and these ahead of there being too few working days.
func TestAddErrors(t *testing.T) {
	for _, c := range wrongCalendars() {
		for _, d := range []int{0, 4, last, -1, end, math.MinInt, math.MaxInt} {
			for _, n := range []int{0, 1, 365, -1, 366, math.MinInt, math.MaxInt} {
				checkAdd(t, c, d, n, 0, api.ErrArg)
			}
		}
	}
	for _, c := range []api.Calendar{calendar(0), example, calendar(96, last-1, last), calendar(126, 0, 7, last)} {
		for _, d := range wrongDates {
			for _, n := range slices.Concat(rightNs, wrongNs) {
				checkAdd(t, c, d, n, 0, api.ErrRange)
			}
		}
		for _, n := range wrongNs {
			// The date is a working day or not, and has working days later than it or not.
			for _, d := range []int{0, 4, 5, 7, 45349, last - 1, last} {
				checkAdd(t, c, d, n, 0, api.ErrRange)
			}
		}
	}
}

// P6.4: the working days of ranges, and none of empty ranges.
func TestCount(t *testing.T) {
	for to, want := range []int{0, 1, 2, 3, 4, 5, 5, 5, 5, 6, 7, 8, 9, 9, 9, 10} {
		checkCount(t, example, r(0, to), want)
	}
	for from, want := range []int{9, 8, 7, 6, 5, 4, 4, 4, 4, 3, 2, 1, 0, 0, 0} {
		checkCount(t, example, r(from, 14), want)
	}
	for d := range 15 {
		checkCount(t, example, r(d, d), 0)
		checkCount(t, calendar(0), r(end-d, end-d), 0)
	}
	checkCount(t, calendar(0), r(0, end), end)
	checkCount(t, calendar(0, 0, last), r(0, end), end-2)
	checkCount(t, calendar(0, 0, last), r(1, last), end-2)
	checkCount(t, calendar(0, sequence(0, 1739, api.MaxHolidays)...), r(0, end), end-api.MaxHolidays)
	checkCount(t, plain, r(last, end), 1)
	checkCount(t, plain, r(last-1, end), 2)
	checkCount(t, plain, r(last-3, end), 2)
	checkCount(t, plain, r(last-4, end), 3)
	checkCount(t, calendar(96, last), r(last, end), 0)
	checkCount(t, calendar(96, last), r(last-1, end), 1)
	// A holiday at the weekend takes no working day away, nor does one outside the range.
	checkCount(t, calendar(96, 5, 6), r(0, 14), 10)
	checkCount(t, calendar(96, 0, 7, 14), r(1, 14), 8)
	checkCount(t, calendar(96, 0, 7, 14), r(0, 15), 8)
	checkCount(t, calendar(96, 0, 7, 14), r(1, 15), 8)
}

// P6.4: each range of some days, and long ones, against the words of the definition.
func TestCountAgainstDefinition(t *testing.T) {
	for _, c := range slices.Concat(rightCalendars(), randomCalendars(64, 100)) {
		for _, start := range []int{0, 45349, end - 16} {
			for from := start; from <= start+16; from++ {
				for to := from; to <= start+16; to++ {
					checkCount(t, c, r(from, to), wantCount(c, r(from, to)))
				}
			}
		}
	}
	for i, c := range slices.Concat(rightCalendars(), randomCalendars(65, 60)) {
		from := i % 9
		checkCount(t, c, r(from, end), wantCount(c, r(from, end)))
		checkCount(t, c, r(0, end-from), wantCount(c, r(0, end-from)))
		checkCount(t, c, r(31*i, 90000-17*i), wantCount(c, r(31*i, 90000-17*i)))
	}
}

// P6.4: invalid calendars and invalid ranges have no working days.
func TestCountWrong(t *testing.T) {
	for _, c := range wrongCalendars() {
		for _, r := range append([]api.DateRange{r(0, 14), r(0, 0), r(0, end), r(last, end), r(40000, 50000)}, wrongRanges...) {
			checkCount(t, c, r, 0)
		}
	}
	for _, r := range wrongRanges {
		checkCount(t, calendar(0), r, 0)
		checkCount(t, example, r, 0)
		checkCount(t, calendar(126, 0, last), r, 0)
	}
}

// P6.5: the n-th working day is one, and the days after the date up to it have n working days.
func TestAddAgreesWithCount(t *testing.T) {
	dates := edgeDates()
	for _, c := range slices.Concat(rightCalendars(), randomCalendars(66, 300)) {
		for i, d := range dates {
			for _, n := range []int{1, rightNs[1+i%(len(rightNs)-1)]} {
				found, code := Add(c, d, n)
				if code != api.OK {
					// There are too few working days, so that Count finds fewer than n.
					if left := Count(c, r(d+1, end)); code != api.ErrNotFound || left >= n {
						t.Errorf("Add(%v, %d, %d): error %d with %d days left", c, d, n, code, left)
					}
					continue
				}
				if !IsWorkday(c, found) || found <= d {
					t.Errorf("Add(%v, %d, %d) = %d is not a working day later than the date", c, d, n, found)
				}
				checkCount(t, c, r(d+1, found+1), n)
				checkCount(t, c, r(d+1, found), n-1)
			}
		}
	}
}

// P6.6: the counts of two adjacent ranges add up.
func TestCountsAddUp(t *testing.T) {
	source := rand.New(rand.NewSource(66))
	for _, c := range slices.Concat(rightCalendars(), randomCalendars(67, 300)) {
		for range 40 {
			ends := []int{source.Intn(end + 1), source.Intn(end + 1), source.Intn(end + 1)}
			if source.Intn(2) == 0 {
				start := []int{0, end - 100}[source.Intn(2)]
				ends = []int{start + source.Intn(101), start + source.Intn(101), start + source.Intn(101)}
			}
			slices.Sort(ends)
			sum := Count(c, r(ends[0], ends[1])) + Count(c, r(ends[1], ends[2]))
			checkCount(t, c, r(ends[0], ends[2]), sum)
		}
		sum := 0
		for d := range 30 {
			sum += Count(c, r(d, d+1))
			checkCount(t, c, r(0, d+1), sum)
		}
	}
}

// P6.6: Next of a working day is that day, and Next of another one is not.
func TestNextOfWorkday(t *testing.T) {
	dates := edgeDates()
	for _, c := range slices.Concat(rightCalendars(), randomCalendars(68, 300)) {
		for _, d := range slices.Concat(dates, c.Holidays) {
			if IsWorkday(c, d) {
				checkNext(t, c, d, d, api.OK)
				continue
			}
			found, code := Next(c, d)
			if code == api.OK && (found <= d || !IsWorkday(c, found) || Count(c, r(d, found)) != 0) {
				t.Errorf("Next(%v, %d) = %d", c, d, found)
			}
			if code != api.OK && (code != api.ErrNotFound || Count(c, r(d, end)) != 0) {
				t.Errorf("Next(%v, %d): error %d", c, d, code)
			}
		}
	}
}

// Whether the holidays are nil, empty, or part of a longer slice changes nothing, and no function changes them.
func TestHolidaysSlice(t *testing.T) {
	for _, days := range slices.Concat(rightHolidays(), wrongHolidays()) {
		room := append(slices.Clone(days), 0, 4, 5, 8, last)
		before := slices.Clone(room)
		cut := api.Calendar{Weekend: 96, Holidays: room[:len(days)]}
		own := api.Calendar{Weekend: 96, Holidays: slices.Clip(slices.Clone(days))}
		checkValid(t, cut, Valid(own))
		for _, d := range []int{-1, 0, 4, 5, 8, last} {
			checkIsWorkday(t, cut, d, IsWorkday(own, d))
			want, code := Next(own, d)
			checkNext(t, cut, d, want, code)
			want, code = Add(own, d, 3)
			checkAdd(t, cut, d, 3, want, code)
			checkCount(t, cut, r(d, end), Count(own, r(d, end)))
		}
		if !slices.Equal(room, before) {
			t.Errorf("the holidays %v were changed to %v", before, room)
		}
	}
	for d := range 8 {
		checkIsWorkday(t, api.Calendar{Holidays: nil}, d, true)
		checkIsWorkday(t, api.Calendar{Holidays: []int{}}, d, true)
	}
}
