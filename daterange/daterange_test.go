package daterange

import (
	"math"
	"math/rand"
	"slices"
	"testing"

	"guerdon/api"
)

// end is the To of the ranges that contain the last date.
const end = api.MaxDate + 1

var (
	// spans are the starts of spans of ends of ranges: one about the first date, one inside, one about the last date. Each has spanLength ends.
	spans = []int{-1, 40000, api.MaxDate - 3}
	// wrongRanges are invalid ranges, those next to the valid ones first.
	wrongRanges = []api.DateRange{
		r(-1, 0), r(-1, 1), r(-1, 20), r(-1, -1), r(-1, end), r(0, -1), r(1, 0), r(20, 10), r(5, 4), r(end, 0), r(end, end-1), r(0, end+1), r(10, end+1), r(end, end+1), r(end+1, end+1), r(end+1, end), r(end+1, 0),
		r(-2, 20), r(-20, -10), r(-10, -20), r(end+5, end+9), r(1<<32, 1<<32+5), r(0, 1<<32), r(-1<<32, 5), r(1<<32, 5),
		r(math.MinInt, 0), r(math.MinInt, 20), r(math.MinInt, math.MaxInt), r(math.MaxInt, math.MinInt), r(0, math.MaxInt), r(0, math.MinInt), r(10, math.MaxInt), r(math.MaxInt, math.MaxInt), r(math.MinInt, math.MinInt), r(math.MinInt, end), r(math.MaxInt, 5),
	}
	emptyRanges = []api.DateRange{r(0, 0), r(1, 1), r(7, 7), r(10, 10), r(15, 15), r(20, 20), r(end-1, end-1), r(end, end)}
	farDates    = []int{-1, -2, end, end + 1, -end, 1 << 32, -1 << 32, 1<<32 + 15, math.MinInt, math.MinInt + 1, math.MaxInt, math.MaxInt - 1}
)

const spanLength = 6

func r(from, to int) api.DateRange { return api.DateRange{From: from, To: to} }

func list(l ...api.DateRange) []api.DateRange { return l }

// holds says whether a range contains a date, by the words of the definitions.
func holds(r api.DateRange, date int) bool {
	if r.From < 0 || r.To < r.From || r.To > api.MaxDate+1 {
		return false
	}
	return date >= r.From && date < r.To
}

func holdsAny(l []api.DateRange, date int) bool {
	return slices.ContainsFunc(l, func(r api.DateRange) bool { return holds(r, date) })
}

// collect lists, in normal form, the dates from lo to hi for which in answers true.
func collect(lo, hi int, in func(date int) bool) []api.DateRange {
	var found []api.DateRange
	for date := lo; date <= hi; date++ {
		if !in(date) {
			continue
		}
		if n := len(found); n > 0 && found[n-1].To == date {
			found[n-1].To = date + 1
		} else {
			found = append(found, r(date, date+1))
		}
	}
	return found
}

// spanRanges lists all ranges with both ends in the span that starts at lo: valid, empty and invalid ones.
func spanRanges(lo int) []api.DateRange {
	var all []api.DateRange
	for from := range spanLength {
		for to := range spanLength {
			all = append(all, r(lo+from, lo+to))
		}
	}
	return all
}

// spanLists calls visit with each list of up to n of the ranges.
func spanLists(ranges []api.DateRange, n int, visit func(l []api.DateRange)) {
	var extend func(l []api.DateRange)
	extend = func(l []api.DateRange) {
		visit(l)
		if len(l) == n {
			return
		}
		for _, r := range ranges {
			extend(append(slices.Clone(l), r))
		}
	}
	extend(nil)
}

// manyLists are lists of many ranges with ends from -3 to 203, some of them invalid.
func manyLists(count int) [][]api.DateRange {
	source := rand.New(rand.NewSource(5))
	lists := make([][]api.DateRange, count)
	for i := range lists {
		width := []int{2, 4, 12, 40}[i%4]
		for range source.Intn(60) {
			from := source.Intn(200) - 3
			lists[i] = append(lists[i], r(from, from+source.Intn(width+3)-2))
		}
	}
	return lists
}

// permutations lists all orders of l.
func permutations(l []api.DateRange) [][]api.DateRange {
	if len(l) == 0 {
		return [][]api.DateRange{nil}
	}
	var all [][]api.DateRange
	for i := range l {
		rest := slices.Delete(slices.Clone(l), i, i+1)
		for _, p := range permutations(rest) {
			all = append(all, append(list(l[i]), p...))
		}
	}
	return all
}

func isNormal(l []api.DateRange) bool {
	for i, r := range l {
		if r.From < 0 || r.From >= r.To || r.To > end || i > 0 && l[i-1].To >= r.From {
			return false
		}
	}
	return true
}

// checkUnchanged holds a list that a function was given against what it was before.
func checkUnchanged(t *testing.T, name string, l, before []api.DateRange) {
	t.Helper()
	if !slices.Equal(l, before) {
		t.Errorf("%s changes its argument %v to %v", name, before, l)
	}
}

func checkIntersect(t *testing.T, a, b, want api.DateRange, ok bool) {
	t.Helper()
	if got, found := Intersect(a, b); got != want || found != ok {
		t.Errorf("Intersect(%v, %v) = %v, %v, not %v, %v", a, b, got, found, want, ok)
	}
}

// checkCommon holds the intersections of two ranges in both orders against what is asked for.
func checkCommon(t *testing.T, a, b, want api.DateRange, ok bool) {
	t.Helper()
	checkIntersect(t, a, b, want, ok)
	checkIntersect(t, b, a, want, ok)
}

func checkSubtract(t *testing.T, a, b api.DateRange, want ...api.DateRange) {
	t.Helper()
	if got := Subtract(a, b); !slices.Equal(got, want) || !isNormal(got) {
		t.Errorf("Subtract(%v, %v) = %v, not %v", a, b, got, want)
	}
}

func checkUnion(t *testing.T, l []api.DateRange, want ...api.DateRange) {
	t.Helper()
	before := slices.Clone(l)
	if got := Union(l); !slices.Equal(got, want) || !isNormal(got) {
		t.Errorf("Union(%v) = %v, not %v", before, got, want)
	}
	checkUnchanged(t, "Union", l, before)
}

func checkGaps(t *testing.T, l []api.DateRange, within api.DateRange, want ...api.DateRange) {
	t.Helper()
	before := slices.Clone(l)
	if got := Gaps(l, within); !slices.Equal(got, want) || !isNormal(got) {
		t.Errorf("Gaps(%v, %v) = %v, not %v", before, within, got, want)
	}
	checkUnchanged(t, "Gaps", l, before)
}

func checkBoundaries(t *testing.T, l []api.DateRange, want ...int) {
	t.Helper()
	before := slices.Clone(l)
	if got := Boundaries(l); !slices.Equal(got, want) {
		t.Errorf("Boundaries(%v) = %v, not %v", before, got, want)
	}
	checkUnchanged(t, "Boundaries", l, before)
}

// boundariesReference lists the ends of the ranges that contain a date: the dates next to which a range begins or stops to contain dates.
func boundariesReference(l []api.DateRange, lo, hi int) []int {
	var ends []int
	for date := lo; date <= hi; date++ {
		if slices.ContainsFunc(l, func(r api.DateRange) bool { return holds(r, date) != holds(r, date-1) }) {
			ends = append(ends, date)
		}
	}
	return ends
}

// P5.1: the bounds of the valid ranges, each alone and with the other end anywhere.
func TestValid(t *testing.T) {
	for _, x := range append(list(r(0, 0), r(0, 1), r(0, end), r(0, end-1), r(10, 20), r(19, 20), r(end-1, end), r(1, end)), emptyRanges...) {
		if !Valid(x) {
			t.Errorf("%v is valid", x)
		}
	}
	for _, x := range wrongRanges {
		if Valid(x) {
			t.Errorf("%v is invalid", x)
		}
	}
	for from := -2; from <= 6; from++ {
		for to := -2; to <= 6; to++ {
			if want := from >= 0 && to >= from; Valid(r(from, to)) != want {
				t.Errorf("Valid(%v) is not %v", r(from, to), want)
			}
			top := r(api.MaxDate-2+from, api.MaxDate-2+to)
			if want := to >= from && to <= 3; Valid(top) != want {
				t.Errorf("Valid(%v) is not %v", top, want)
			}
		}
	}
}

// P5.1: the dates of a range are those from From up to the one before To.
func TestContains(t *testing.T) {
	for _, x := range []struct {
		r    api.DateRange
		date int
		want bool
	}{
		{r(10, 20), 9, false}, {r(10, 20), 10, true}, {r(10, 20), 11, true}, {r(10, 20), 15, true}, {r(10, 20), 19, true}, {r(10, 20), 20, false}, {r(10, 20), 21, false}, {r(10, 20), 0, false},
		{r(10, 11), 10, true}, {r(10, 11), 9, false}, {r(10, 11), 11, false},
		{r(0, 1), 0, true}, {r(0, 1), 1, false}, {r(0, 1), -1, false},
		{r(0, end), 0, true}, {r(0, end), api.MaxDate, true}, {r(0, end), end, false}, {r(0, end), 50000, true},
		{r(end-1, end), api.MaxDate, true}, {r(end-1, end), api.MaxDate - 1, false}, {r(end-1, end), end, false},
		{r(0, api.MaxDate), api.MaxDate, false}, {r(0, api.MaxDate), api.MaxDate - 1, true},
	} {
		if Contains(x.r, x.date) != x.want {
			t.Errorf("Contains(%v, %d) is not %v", x.r, x.date, x.want)
		}
	}
	for _, x := range []api.DateRange{r(0, end), r(10, 20), r(0, 20), r(10, end)} {
		for _, date := range farDates {
			if Contains(x, date) {
				t.Errorf("%v contains %d", x, date)
			}
		}
	}
}

// P5.1: an invalid range and an empty one contain no date at all.
func TestContainsNothing(t *testing.T) {
	for _, x := range slices.Concat(wrongRanges, emptyRanges) {
		dates := append([]int{0, 1, 5, 7, 10, 12, 15, 19, 20, 50000, api.MaxDate - 1, api.MaxDate}, farDates...)
		for _, date := range append(dates, x.From-1, x.From, x.From+1, x.To-1, x.To, x.To+1) {
			if Contains(x, date) {
				t.Errorf("%v contains %d", x, date)
			}
		}
	}
}

// P5.1: every range of each span, with every date about it.
func TestContainsAll(t *testing.T) {
	for _, lo := range spans {
		for _, x := range spanRanges(lo) {
			for date := lo - 3; date < lo+spanLength+3; date++ {
				if want := holds(x, date); Contains(x, date) != want {
					t.Errorf("Contains(%v, %d) is not %v", x, date, want)
				}
			}
		}
	}
}

// P5.1: common dates of ranges that overlap, contain one another, are equal, touch or lie apart.
func TestIntersect(t *testing.T) {
	zero := api.DateRange{}
	checkCommon(t, r(10, 20), r(15, 30), r(15, 20), true)
	checkCommon(t, r(10, 20), r(20, 30), zero, false)
	checkCommon(t, r(10, 20), r(19, 30), r(19, 20), true)
	checkCommon(t, r(10, 20), r(21, 30), zero, false)
	checkCommon(t, r(10, 20), r(40, 50), zero, false)
	checkCommon(t, r(10, 20), r(12, 15), r(12, 15), true)
	checkCommon(t, r(10, 20), r(10, 15), r(10, 15), true)
	checkCommon(t, r(10, 20), r(15, 20), r(15, 20), true)
	checkCommon(t, r(10, 20), r(10, 20), r(10, 20), true)
	checkCommon(t, r(10, 20), r(0, end), r(10, 20), true)
	checkCommon(t, r(0, end), r(0, end), r(0, end), true)
	checkCommon(t, r(0, 1), r(0, end), r(0, 1), true)
	checkCommon(t, r(end-1, end), r(0, end), r(end-1, end), true)
	checkCommon(t, r(0, 1), r(end-1, end), zero, false)
	checkCommon(t, r(0, end-1), r(end-1, end), zero, false)
	checkCommon(t, r(0, 50000), r(49999, end), r(49999, 50000), true)
	for _, x := range slices.Concat(wrongRanges, emptyRanges) {
		for _, y := range append(list(r(0, end), r(10, 20), r(0, 20), r(10, end), r(0, 1), r(end-1, end), x), wrongRanges...) {
			checkCommon(t, x, y, zero, false)
		}
	}
}

// P5.1: what remains of a range: nothing, one range or two.
func TestSubtract(t *testing.T) {
	checkSubtract(t, r(10, 20), r(12, 15), r(10, 12), r(15, 20))
	checkSubtract(t, r(10, 20), r(0, 50))
	checkSubtract(t, r(10, 20), r(10, 20))
	checkSubtract(t, r(10, 20), r(10, 21))
	checkSubtract(t, r(10, 20), r(9, 20))
	checkSubtract(t, r(10, 20), r(0, end))
	checkSubtract(t, r(10, 20), r(11, 19), r(10, 11), r(19, 20))
	checkSubtract(t, r(10, 20), r(11, 20), r(10, 11))
	checkSubtract(t, r(10, 20), r(10, 19), r(19, 20))
	checkSubtract(t, r(10, 20), r(0, 11), r(11, 20))
	checkSubtract(t, r(10, 20), r(0, 10), r(10, 20))
	checkSubtract(t, r(10, 20), r(0, 9), r(10, 20))
	checkSubtract(t, r(10, 20), r(19, 30), r(10, 19))
	checkSubtract(t, r(10, 20), r(20, 30), r(10, 20))
	checkSubtract(t, r(10, 20), r(25, 30), r(10, 20))
	checkSubtract(t, r(0, end), r(0, end))
	checkSubtract(t, r(0, end), r(0, end-1), r(end-1, end))
	checkSubtract(t, r(0, end), r(1, end), r(0, 1))
	checkSubtract(t, r(0, end), r(1, end-1), r(0, 1), r(end-1, end))
	checkSubtract(t, r(0, end), r(500, 501), r(0, 500), r(501, end))
	for _, x := range slices.Concat(wrongRanges, emptyRanges) {
		for _, y := range list(r(0, end), r(10, 20), r(5, 25), r(0, 1), r(end-1, end)) {
			checkSubtract(t, x, y)
			checkSubtract(t, y, x, y)
		}
		for _, y := range slices.Concat(wrongRanges, emptyRanges) {
			checkSubtract(t, x, y)
		}
	}
}

// P5.1: every two ranges of each span, against the definitions date by date.
func TestPairsAll(t *testing.T) {
	for _, lo := range spans {
		all, from, to := spanRanges(lo), lo-2, lo+spanLength+2
		for _, a := range all {
			for _, b := range all {
				common := collect(from, to, func(date int) bool { return holds(a, date) && holds(b, date) })
				if len(common) == 0 {
					checkIntersect(t, a, b, api.DateRange{}, false)
				} else {
					checkIntersect(t, a, b, common[0], true)
				}
				checkSubtract(t, a, b, collect(from, to, func(date int) bool { return holds(a, date) && !holds(b, date) })...)
			}
		}
	}
}

// P5.2: unions of ranges that overlap, touch, contain one another or lie apart, and of lists with nothing to contain.
func TestUnion(t *testing.T) {
	checkUnion(t, list(r(20, 30), r(10, 20), r(40, 40)), r(10, 30))
	checkUnion(t, nil)
	checkUnion(t, list())
	checkUnion(t, list(r(10, 20)), r(10, 20))
	checkUnion(t, list(r(10, 20), r(10, 20), r(10, 20)), r(10, 20))
	checkUnion(t, list(r(21, 30), r(10, 20)), r(10, 20), r(21, 30))
	checkUnion(t, list(r(19, 30), r(10, 20)), r(10, 30))
	checkUnion(t, list(r(10, 40), r(20, 30)), r(10, 40))
	checkUnion(t, list(r(10, 40), r(20, 30), r(35, 50), r(12, 13)), r(10, 50))
	checkUnion(t, list(r(10, 40), r(20, 30), r(41, 50), r(12, 13)), r(10, 40), r(41, 50))
	checkUnion(t, list(r(10, 20), r(10, 15), r(10, 30)), r(10, 30))
	checkUnion(t, list(r(10, 11), r(12, 13), r(14, 15)), r(10, 11), r(12, 13), r(14, 15))
	checkUnion(t, list(r(10, 11), r(12, 13), r(14, 15), r(11, 14)), r(10, 15))
	checkUnion(t, list(r(0, 1), r(end-1, end)), r(0, 1), r(end-1, end))
	checkUnion(t, list(r(50000, end), r(0, 50000)), r(0, end))
	checkUnion(t, list(r(50001, end), r(0, 50000)), r(0, 50000), r(50001, end))
	checkUnion(t, emptyRanges)
	checkUnion(t, wrongRanges)
}

// P5.2: an empty or invalid range adds nothing to a list, wherever it stands.
func TestUselessRanges(t *testing.T) {
	for _, x := range slices.Concat(wrongRanges, emptyRanges) {
		checkUnion(t, list(x))
		checkGaps(t, list(x), r(5, 25), r(5, 25))
		checkGaps(t, list(x), r(0, end), r(0, end))
		checkGaps(t, list(r(0, 3), r(10, 20)), x)
		checkGaps(t, nil, x)
		checkGaps(t, list(x, x), x)
		checkBoundaries(t, list(x))
		for i := range 4 {
			l := slices.Insert(list(r(30, 40), r(10, 14), r(16, 20)), i, x)
			checkUnion(t, l, r(10, 14), r(16, 20), r(30, 40))
			checkGaps(t, l, r(5, 45), r(5, 10), r(14, 16), r(20, 30), r(40, 45))
			checkBoundaries(t, l, 10, 14, 16, 20, 30, 40)
		}
	}
	useless := slices.Concat(wrongRanges, list(r(10, 20)), emptyRanges, wrongRanges)
	checkUnion(t, useless, r(10, 20))
	checkGaps(t, useless, r(0, end), r(0, 10), r(20, end))
	checkBoundaries(t, useless, 10, 20)
}

// P5.2: gaps at the start, inside, at the end, nowhere and everywhere.
func TestGaps(t *testing.T) {
	checkGaps(t, list(r(12, 14), r(13, 15)), r(10, 20), r(10, 12), r(15, 20))
	checkGaps(t, nil, r(10, 20), r(10, 20))
	checkGaps(t, list(), r(0, end), r(0, end))
	checkGaps(t, nil, r(10, 10))
	checkGaps(t, nil, r(10, 9))
	checkGaps(t, list(r(10, 20)), r(10, 20))
	checkGaps(t, list(r(0, end)), r(10, 20))
	checkGaps(t, list(r(0, end)), r(0, end))
	checkGaps(t, list(r(15, 20), r(10, 15)), r(10, 20))
	checkGaps(t, list(r(16, 20), r(10, 15)), r(10, 20), r(15, 16))
	checkGaps(t, list(r(0, 10), r(20, 30)), r(10, 20), r(10, 20))
	checkGaps(t, list(r(0, 11), r(19, 30)), r(10, 20), r(11, 19))
	checkGaps(t, list(r(0, 9), r(21, 30)), r(10, 20), r(10, 20))
	checkGaps(t, list(r(0, 5), r(3, 7), r(8, 9), r(25, 30), r(28, 40)), r(10, 20), r(10, 20))
	checkGaps(t, list(r(0, 5), r(12, 13), r(30, 40), r(17, 18)), r(10, 20), r(10, 12), r(13, 17), r(18, 20))
	checkGaps(t, list(r(11, 19)), r(10, 20), r(10, 11), r(19, 20))
	checkGaps(t, list(r(11, 20)), r(10, 20), r(10, 11))
	checkGaps(t, list(r(10, 19)), r(10, 20), r(19, 20))
	checkGaps(t, list(r(10, 40), r(20, 30)), r(5, 45), r(5, 10), r(40, 45))
	checkGaps(t, list(r(1, end-1)), r(0, end), r(0, 1), r(end-1, end))
	checkGaps(t, list(r(0, 1), r(end-1, end)), r(0, end), r(1, end-1))
	checkGaps(t, list(r(10, 20)), r(20, 30), r(20, 30))
	checkGaps(t, list(r(10, 20)), r(0, 10), r(0, 10))
}

// P5.2: the ends of the ranges that contain a date, once each.
func TestBoundaries(t *testing.T) {
	checkBoundaries(t, list(r(10, 20), r(15, 20), r(7, 7)), 10, 15, 20)
	checkBoundaries(t, nil)
	checkBoundaries(t, list())
	checkBoundaries(t, list(r(10, 20)), 10, 20)
	checkBoundaries(t, list(r(20, 30), r(10, 20)), 10, 20, 30)
	checkBoundaries(t, list(r(10, 20), r(10, 20)), 10, 20)
	checkBoundaries(t, list(r(10, 40), r(20, 30)), 10, 20, 30, 40)
	checkBoundaries(t, list(r(0, end)), 0, end)
	checkBoundaries(t, list(r(end-1, end), r(0, 1)), 0, 1, end-1, end)
	checkBoundaries(t, list(r(15, 15), r(10, 20), r(10, 10), r(20, 20)), 10, 20)
	checkBoundaries(t, emptyRanges)
	checkBoundaries(t, wrongRanges)
}

// P5.2: every list of up to two ranges of each span, against the definitions date by date.
func TestListsAll(t *testing.T) {
	for _, lo := range spans {
		all, from, to := spanRanges(lo), lo-2, lo+spanLength+2
		spanLists(all, 2, func(l []api.DateRange) {
			checkUnion(t, l, collect(from, to, func(date int) bool { return holdsAny(l, date) })...)
			checkBoundaries(t, l, boundariesReference(l, from, to)...)
			for _, within := range all {
				checkGaps(t, l, within, collect(from, to, func(date int) bool { return holds(within, date) && !holdsAny(l, date) })...)
			}
		})
	}
}

// P5.2: every list of three ranges that contain a date.
func TestListsOfThree(t *testing.T) {
	all := slices.DeleteFunc(spanRanges(0), func(r api.DateRange) bool { return r.From >= r.To })
	spanLists(all, 3, func(l []api.DateRange) {
		checkUnion(t, l, collect(0, spanLength, func(date int) bool { return holdsAny(l, date) })...)
		checkBoundaries(t, l, boundariesReference(l, 0, spanLength)...)
		checkGaps(t, l, r(1, 5), collect(1, 4, func(date int) bool { return !holdsAny(l, date) })...)
	})
}

// P5.2: lists of many ranges of all kinds.
func TestManyRanges(t *testing.T) {
	for _, l := range manyLists(400) {
		checkUnion(t, l, collect(-5, 250, func(date int) bool { return holdsAny(l, date) })...)
		checkBoundaries(t, l, boundariesReference(l, -5, 250)...)
		for _, within := range list(r(0, 250), r(50, 150), r(100, 101), r(200, 210), r(0, 1)) {
			checkGaps(t, l, within, collect(within.From, within.To-1, func(date int) bool { return !holdsAny(l, date) })...)
		}
	}
}

// P5.2: a range for every second date of the whole calendar, the last one first.
func TestWholeCalendar(t *testing.T) {
	var l, odd []api.DateRange
	var all []int
	for date := range end {
		all = append(all, date)
		if date%2 == 0 {
			l = append(l, r(date, date+1))
		} else {
			odd = append(odd, r(date, date+1))
		}
	}
	even := slices.Clone(l)
	slices.Reverse(l)
	checkUnion(t, l, even...)
	checkGaps(t, l, r(0, end), odd...)
	checkBoundaries(t, l, append(all, end)...)
	checkUnion(t, slices.Concat(l, odd), r(0, end))
	checkGaps(t, slices.Concat(odd, l), r(0, end))
}

// checkPartition holds the gaps against the list date by date: a date of within lies in the one or in the other, no other date lies in a gap.
func checkPartition(t *testing.T, l []api.DateRange, within api.DateRange, lo, hi int) {
	t.Helper()
	gaps := Gaps(l, within)
	for date := lo; date <= hi; date++ {
		inGap := holdsAny(gaps, date)
		if holds(within, date) && inGap == holdsAny(l, date) {
			t.Fatalf("date %d lies in both or in none of %v and its gaps %v within %v", date, l, gaps, within)
		}
		if !holds(within, date) && inGap {
			t.Fatalf("date %d lies in the gaps %v of %v, not within %v", date, gaps, l, within)
		}
	}
	for _, g := range gaps {
		if g.From < within.From || g.To > within.To {
			t.Fatalf("the gap %v of %v lies outside of %v", g, l, within)
		}
	}
}

// P5.3: a range is parted by a list and its gaps.
func TestPartition(t *testing.T) {
	for _, lo := range spans {
		all := spanRanges(lo)
		spanLists(all, 2, func(l []api.DateRange) {
			for _, within := range all {
				checkPartition(t, l, within, lo-2, lo+spanLength+2)
			}
		})
	}
	for i, l := range manyLists(400) {
		checkPartition(t, l, r(i%40, 250-i%70), -5, 260)
		checkPartition(t, append(slices.Clone(wrongRanges), l...), r(0, end), -5, 260)
		checkPartition(t, l, wrongRanges[i%len(wrongRanges)], -5, 260)
	}
}

// P5.3: so is the whole calendar, and Subtract parts its range in the same way.
func TestPartitionOfCalendar(t *testing.T) {
	l := list(r(30000, 40000), r(0, 1), r(39999, 50000), r(end-1, end), r(50001, 60000), r(-1, 80000), r(70000, end+1), r(65000, 64000))
	checkPartition(t, l, r(0, end), -10, end+10)
	for _, lo := range spans {
		all := spanRanges(lo)
		for _, a := range all {
			for _, b := range all {
				common, ok := Intersect(a, b)
				parts := Subtract(a, b)
				for date := lo - 2; date < lo+spanLength+2; date++ {
					shared := ok && holds(common, date)
					if rest := holdsAny(parts, date); shared && rest || holds(a, date) != (shared || rest) {
						t.Fatalf("%v is not parted by %v and %v at %d", a, common, parts, date)
					}
				}
			}
		}
	}
}

// checkOrders holds what the functions answer for the lists against what they answer for the first one.
func checkOrders(t *testing.T, within api.DateRange, lists [][]api.DateRange) {
	t.Helper()
	union, gaps, ends := Union(lists[0]), Gaps(lists[0], within), Boundaries(lists[0])
	for _, l := range lists {
		checkUnion(t, l, union...)
		checkGaps(t, l, within, gaps...)
		checkBoundaries(t, l, ends...)
	}
}

// P5.4: no order of a list changes an answer.
func TestOrder(t *testing.T) {
	within := r(3, 45)
	for _, l := range [][]api.DateRange{
		list(r(10, 20), r(20, 30), r(40, 50), r(15, 18), r(30, 31)),
		list(r(10, 20), r(10, 15), r(10, 30), r(5, 10), r(0, 50)),
		list(r(10, 20), r(10, 20), r(7, 7), r(-1, 40), r(40, 30), r(21, 22)),
		list(r(0, 1), r(2, 3), r(4, 5), r(1, 2), r(3, 4)),
		list(r(10, 40), r(12, 14), r(30, 41), r(42, 44), r(43, 60)),
	} {
		checkOrders(t, within, permutations(l))
	}
	source := rand.New(rand.NewSource(6))
	for _, l := range manyLists(200) {
		orders := [][]api.DateRange{slices.Clone(l)}
		for range 5 {
			source.Shuffle(len(l), func(i, j int) { l[i], l[j] = l[j], l[i] })
			orders = append(orders, slices.Clone(l))
		}
		checkOrders(t, r(20, 180), orders)
	}
}

// P5.4: every order of every list of up to two ranges of a span.
func TestOrderOfPairs(t *testing.T) {
	all := spanRanges(-1)
	for _, a := range all {
		for _, b := range all {
			checkOrders(t, r(0, 3), [][]api.DateRange{{a, b}, {b, a}})
		}
	}
}

// P5.4: a union is its own union.
func TestUnionOfUnion(t *testing.T) {
	for _, lo := range spans {
		spanLists(spanRanges(lo), 2, func(l []api.DateRange) {
			union := Union(l)
			checkUnion(t, union, slices.Clone(union)...)
		})
	}
	for _, l := range manyLists(400) {
		union := Union(l)
		checkUnion(t, union, slices.Clone(union)...)
	}
	normal := list(r(0, 1), r(2, 5), r(6, 7), r(50, 60), r(end-1, end))
	checkUnion(t, normal, slices.Clone(normal)...)
}

// R4: what is done to an answer does not reach the list, nor what is done to the list the answer, nor does a call write behind the list.
func TestMemory(t *testing.T) {
	normal := list(r(10, 20), r(30, 40), r(50, 60))
	behind := append(slices.Clone(normal), r(91, 92), r(93, 94), r(95, 96), r(97, 98))
	for _, l := range [][]api.DateRange{slices.Clone(normal), behind[:3]} {
		union, gaps, ends := Union(l), Gaps(l, r(0, 100)), Boundaries(l)
		for i := range union {
			union[i] = r(1, 2)
		}
		for i := range gaps {
			gaps[i] = r(3, 4)
		}
		for i := range ends {
			ends[i] = -7
		}
		union, gaps, ends = append(union, r(5, 6)), append(gaps, r(5, 6)), append(ends, -7)
		if !slices.Equal(l, normal) {
			t.Errorf("the list is %v, not %v", l, normal)
		}
		union, gaps, ends = Union(l), Gaps(l, r(0, 100)), Boundaries(l)
		for i := range l {
			l[i] = r(1, 2)
		}
		if !slices.Equal(union, normal) || !slices.Equal(gaps, list(r(0, 10), r(20, 30), r(40, 50), r(60, 100))) || !slices.Equal(ends, []int{10, 20, 30, 40, 50, 60}) {
			t.Errorf("the answers change with the list: %v, %v, %v", union, gaps, ends)
		}
	}
	if !slices.Equal(behind[3:], list(r(91, 92), r(93, 94), r(95, 96), r(97, 98))) {
		t.Errorf("behind the list stands %v", behind[3:])
	}
}
