package rate

import (
	"math"
	"math/big"
	"testing"

	"guerdon/api"
	"guerdon/money"
)

// allDays is the number of days from 1 January 1900 to 31 December 2199.
const allDays = api.MaxDate + 1

var (
	modes      = []int{api.RoundFloor, api.RoundCeil, api.RoundToZero, api.RoundFromZero, api.RoundHalfAway, api.RoundHalfEven}
	wrongModes = []int{-1, 6, 7, 256, -250, 1 << 32, math.MaxInt, math.MinInt}
)

// bothSigns returns the numbers and their negations, 0 and the least int.
func bothSigns(numbers ...int) []int {
	list := []int{0, math.MinInt}
	for _, n := range numbers {
		list = append(list, n, -n)
	}
	return list
}

func isBeyond(n *big.Int, limit int64) bool {
	return n.CmpAbs(big.NewInt(limit)) > 0
}

func bigProduct(a int, b int) *big.Int {
	return new(big.Int).Mul(big.NewInt(int64(a)), big.NewInt(int64(b)))
}

// quotientOfSize returns |n|/|d| rounded as the mode rounds it for that sign.
func quotientOfSize(n *big.Int, d *big.Int, mode int, negative bool) *big.Int {
	down, rest := new(big.Int).QuoRem(n, d, new(big.Int))
	up := new(big.Int).Add(down, big.NewInt(int64(rest.Sign())))
	// Half of the divisor added before rounding down moves a tie up.
	double := new(big.Int).Lsh(d, 1)
	nearest, middle := new(big.Int).QuoRem(new(big.Int).Add(new(big.Int).Lsh(n, 1), d), double, new(big.Int))
	switch mode {
	case api.RoundFloor:
		if negative {
			return up
		}
	case api.RoundCeil:
		if !negative {
			return up
		}
	case api.RoundFromZero:
		return up
	case api.RoundHalfAway:
		return nearest
	case api.RoundHalfEven:
		if middle.Sign() == 0 && nearest.Bit(0) == 1 {
			return down
		}
		return nearest
	}
	return down
}

// reference returns n/d rounded in integers of any size, or ErrRange if that is beyond the limit.
func reference(n *big.Int, d *big.Int, mode int, limit int64) (int, api.Errno) {
	negative := n.Sign()*d.Sign() < 0
	q := quotientOfSize(new(big.Int).Abs(n), new(big.Int).Abs(d), mode, negative)
	if isBeyond(q, limit) {
		return 0, api.ErrRange
	}
	if negative {
		q.Neg(q)
	}
	return int(q.Int64()), api.OK
}

func checkFromRatio(t *testing.T, num, den, mode, want int, code api.Errno) {
	t.Helper()
	if got, e := FromRatio(num, den, mode); got != want || e != code {
		t.Errorf("FromRatio(%d, %d, %d) = %d, %d, not %d, %d", num, den, mode, got, e, want, code)
	}
}

func checkMul(t *testing.T, a, b, mode, want int, code api.Errno) {
	t.Helper()
	if got, e := Mul(a, b, mode); got != want || e != code {
		t.Errorf("Mul(%d, %d, %d) = %d, %d, not %d, %d", a, b, mode, got, e, want, code)
	}
}

func checkApply(t *testing.T, c, r, mode, want int, code api.Errno) {
	t.Helper()
	if got, e := Apply(c, r, mode); got != want || e != code {
		t.Errorf("Apply(%d, %d, %d) = %d, %d, not %d, %d", c, r, mode, got, e, want, code)
	}
}

func checkProrate(t *testing.T, c, days, total, mode, want int, code api.Errno) {
	t.Helper()
	if got, e := Prorate(c, days, total, mode); got != want || e != code {
		t.Errorf("Prorate(%d, %d, %d, %d) = %d, %d, not %d, %d", c, days, total, mode, got, e, want, code)
	}
}

func checkCompound(t *testing.T, c, r, n, mode, want int, code api.Errno) {
	t.Helper()
	if got, e := Compound(c, r, n, mode); got != want || e != code {
		t.Errorf("Compound(%d, %d, %d, %d) = %d, %d, not %d, %d", c, r, n, mode, got, e, want, code)
	}
}

// The modes are the numbers of the document, so that the tables of the tests may list their results in this order.
func TestModes(t *testing.T) {
	for i, mode := range modes {
		if i != mode {
			t.Errorf("mode %d has the number %d", i, mode)
		}
	}
}

// P3.1: examples, and each mode at both signs of both arguments, at, below and above exact halves.
func TestFromRatio(t *testing.T) {
	checkFromRatio(t, 1, 3, api.RoundHalfAway, 333333, api.OK)
	checkFromRatio(t, 1, -3, api.RoundFloor, -333334, api.OK)
	for _, x := range []struct {
		num, den int
		want     [6]int
	}{
		{0, -9, [6]int{}},
		{1, 3, [6]int{333333, 333334, 333333, 333334, 333333, 333333}},
		{-1, 3, [6]int{-333334, -333333, -333333, -333334, -333333, -333333}},
		{1, -3, [6]int{-333334, -333333, -333333, -333334, -333333, -333333}},
		{-1, -3, [6]int{333333, 333334, 333333, 333334, 333333, 333333}},
		{2, 3, [6]int{666666, 666667, 666666, 666667, 666667, 666667}},
		{-2, 3, [6]int{-666667, -666666, -666666, -666667, -666667, -666667}},
		{5, 2, [6]int{2500000, 2500000, 2500000, 2500000, 2500000, 2500000}},
		{1, 2000000, [6]int{0, 1, 0, 1, 1, 0}},
		{-1, 2000000, [6]int{-1, 0, 0, -1, -1, 0}},
		{3, 2000000, [6]int{1, 2, 1, 2, 2, 2}},
		{3, -2000000, [6]int{-2, -1, -1, -2, -2, -2}},
		{2000001, 2000000, [6]int{1000000, 1000001, 1000000, 1000001, 1000001, 1000000}},
		{2000003, -2000000, [6]int{-1000002, -1000001, -1000001, -1000002, -1000002, -1000002}},
		// A half more than a thousand millionths, which are the remainder of the first division.
		{2001, 2000000, [6]int{1000, 1001, 1000, 1001, 1001, 1000}},
		{1999, 2000000, [6]int{999, 1000, 999, 1000, 1000, 1000}},
		{-2001, -2000000, [6]int{1000, 1001, 1000, 1001, 1001, 1000}},
		{1, api.MaxCents, [6]int{0, 1, 0, 1, 0, 0}},
		{-1, api.MaxCents, [6]int{-1, 0, 0, -1, 0, 0}},
		{500000000, api.MaxCents, [6]int{0, 1, 0, 1, 1, 0}},
		{500000001, api.MaxCents, [6]int{0, 1, 0, 1, 1, 1}},
		{499999999, -api.MaxCents, [6]int{-1, 0, 0, -1, 0, 0}},
		{1500000000, -api.MaxCents, [6]int{-2, -1, -1, -2, -2, -2}},
		{api.MaxCents, api.MaxCents, [6]int{1000000, 1000000, 1000000, 1000000, 1000000, 1000000}},
		{api.MaxCents - 1, api.MaxCents, [6]int{999999, 1000000, 999999, 1000000, 1000000, 1000000}},
		{api.MaxCents, -api.MaxCents + 1, [6]int{-1000001, -1000000, -1000000, -1000001, -1000000, -1000000}},
	} {
		for mode, want := range x.want {
			checkFromRatio(t, x.num, x.den, mode, want, api.OK)
		}
	}
}

// P3.1: results at MaxRate and beyond it, before and after rounding.
func TestFromRatioAtMaxRate(t *testing.T) {
	for _, mode := range modes {
		for _, k := range []int{1, 7, 1000000000000} {
			checkFromRatio(t, 1000*k, k, mode, api.MaxRate, api.OK)
			checkFromRatio(t, 1000*k, -k, mode, -api.MaxRate, api.OK)
			checkFromRatio(t, -999*k, k, mode, -999000000, api.OK)
		}
		for _, num := range []int{1001, 2000, 1 << 40, api.MaxCents} {
			checkFromRatio(t, num, 1, mode, 0, api.ErrRange)
			checkFromRatio(t, -num, 1, mode, 0, api.ErrRange)
			checkFromRatio(t, num, -1, mode, 0, api.ErrRange)
		}
		// The ratio is 1000.001, 1000.000002 and 1000.000001.
		checkFromRatio(t, 1000001, 1000, mode, 0, api.ErrRange)
		checkFromRatio(t, -500000001, 500000, mode, 0, api.ErrRange)
		checkFromRatio(t, 1000000001, -1000000, mode, 0, api.ErrRange)
		checkFromRatio(t, 999999999, 1000000, mode, 999999999, api.OK)
	}
	// The ratio in millionths is MaxRate and a half.
	for sign := -1; sign <= 1; sign += 2 {
		num := sign * 2000000001
		checkFromRatio(t, num, 2000000, api.RoundToZero, sign*api.MaxRate, api.OK)
		checkFromRatio(t, num, 2000000, api.RoundHalfEven, sign*api.MaxRate, api.OK)
		checkFromRatio(t, num, 2000000, api.RoundHalfAway, 0, api.ErrRange)
		checkFromRatio(t, num, 2000000, api.RoundFromZero, 0, api.ErrRange)
	}
	checkFromRatio(t, 2000000001, 2000000, api.RoundFloor, api.MaxRate, api.OK)
	checkFromRatio(t, 2000000001, 2000000, api.RoundCeil, 0, api.ErrRange)
	checkFromRatio(t, -2000000001, 2000000, api.RoundFloor, 0, api.ErrRange)
	checkFromRatio(t, -2000000001, 2000000, api.RoundCeil, -api.MaxRate, api.OK)
	// A part of a millionth below MaxRate.
	checkFromRatio(t, api.MaxCents-1, 1000000000000, api.RoundHalfAway, api.MaxRate, api.OK)
	checkFromRatio(t, api.MaxCents-1, 1000000000000, api.RoundFloor, api.MaxRate-1, api.OK)
}

// ratios returns numbers of both signs that FromRatio takes, and some that it refuses.
func ratios() []int {
	return bothSigns(1, 2, 3, 5, 6, 7, 10, 64, 99, 500, 999, 1000, 1001, 1999, 2000, 2001, 4095, 999999, 1000000, 1000001, 2000000, 2000001, 3000000, 123456789, 499999999, 500000000, 2000000001, 1<<40, 1<<40+1, 333333333333, 999999999999, 1000000000000, 1000000000001, 333333333333333, 666666666666667, 999999999999999, api.MaxCents, api.MaxCents+1, 1<<62, math.MaxInt)
}

func fromRatioReference(num, den, mode int) (int, api.Errno) {
	if den == 0 {
		return 0, api.ErrDivZero
	}
	if isBeyond(big.NewInt(int64(num)), api.MaxCents) || isBeyond(big.NewInt(int64(den)), api.MaxCents) {
		return 0, api.ErrRange
	}
	return reference(bigProduct(num, api.RateOne), big.NewInt(int64(den)), mode, api.MaxRate)
}

// P3.1
func TestFromRatioAgainstReference(t *testing.T) {
	for _, num := range ratios() {
		for _, den := range ratios() {
			for _, mode := range modes {
				want, code := fromRatioReference(num, den, mode)
				checkFromRatio(t, num, den, mode, want, code)
			}
		}
	}
	for num := -30; num <= 30; num++ {
		for den := -70; den <= 70; den++ {
			for _, mode := range modes {
				// Divisors whose millionths have ties.
				want, code := fromRatioReference(num, den*40000, mode)
				checkFromRatio(t, num, den*40000, mode, want, code)
			}
		}
	}
}

// P3.1: the first applicable error.
func TestFromRatioErrors(t *testing.T) {
	outside := []int{api.MaxCents + 1, -api.MaxCents - 1, math.MaxInt, math.MinInt}
	for _, mode := range wrongModes {
		checkFromRatio(t, 1, 1, mode, 0, api.ErrArg)
		checkFromRatio(t, 1, 0, mode, 0, api.ErrArg)
		checkFromRatio(t, math.MinInt, 0, mode, 0, api.ErrArg)
		checkFromRatio(t, 1, math.MinInt, mode, 0, api.ErrArg)
		checkFromRatio(t, 1001, 1, mode, 0, api.ErrArg)
	}
	for _, mode := range modes {
		checkFromRatio(t, 0, 0, mode, 0, api.ErrDivZero)
		for _, n := range outside {
			checkFromRatio(t, n, 0, mode, 0, api.ErrDivZero)
			checkFromRatio(t, n, 1, mode, 0, api.ErrRange)
			checkFromRatio(t, n, n, mode, 0, api.ErrRange)
			checkFromRatio(t, n, api.MaxCents, mode, 0, api.ErrRange)
			checkFromRatio(t, 0, n, mode, 0, api.ErrRange)
			checkFromRatio(t, api.MaxCents, n, mode, 0, api.ErrRange)
		}
	}
}

// P3.2: the example, each mode at both signs and at exact halves, and the greatest rates.
func TestMul(t *testing.T) {
	checkMul(t, 500000, 500000, api.RoundFloor, 250000, api.OK)
	for _, x := range []struct {
		a, b int
		want [6]int
	}{
		{0, -api.MaxRate, [6]int{}},
		{1, 1, [6]int{0, 1, 0, 1, 0, 0}},
		{-1, 1, [6]int{-1, 0, 0, -1, 0, 0}},
		{-1, -1, [6]int{0, 1, 0, 1, 0, 0}},
		{1, 500000, [6]int{0, 1, 0, 1, 1, 0}},
		{-1, 500000, [6]int{-1, 0, 0, -1, -1, 0}},
		{500000, -3, [6]int{-2, -1, -1, -2, -2, -2}},
		{3, 500000, [6]int{1, 2, 1, 2, 2, 2}},
		{1, 499999, [6]int{0, 1, 0, 1, 0, 0}},
		{1, 500001, [6]int{0, 1, 0, 1, 1, 1}},
		{api.RateOne, -123456789, [6]int{-123456789, -123456789, -123456789, -123456789, -123456789, -123456789}},
		{api.MaxRate, api.RateOne, [6]int{api.MaxRate, api.MaxRate, api.MaxRate, api.MaxRate, api.MaxRate, api.MaxRate}},
		{-api.MaxRate, -api.RateOne, [6]int{api.MaxRate, api.MaxRate, api.MaxRate, api.MaxRate, api.MaxRate, api.MaxRate}},
		{api.MaxRate, 999999, [6]int{999999000, 999999000, 999999000, 999999000, 999999000, 999999000}},
		{999999999, 999999, [6]int{999998999, 999999000, 999998999, 999999000, 999998999, 999998999}},
	} {
		for mode, want := range x.want {
			checkMul(t, x.a, x.b, mode, want, api.OK)
			checkMul(t, x.b, x.a, mode, want, api.OK)
		}
	}
	for _, mode := range modes {
		checkMul(t, api.MaxRate, api.RateOne+1, mode, 0, api.ErrRange)
		checkMul(t, -api.MaxRate, api.RateOne+1, mode, 0, api.ErrRange)
		checkMul(t, api.MaxRate, api.MaxRate, mode, 0, api.ErrRange)
		checkMul(t, api.MaxRate, -api.MaxRate, mode, 0, api.ErrRange)
	}
}

// P3.2: products within MaxRate and beyond it before they are rounded.
func TestMulAtMaxRate(t *testing.T) {
	// The product is MaxRate and a half.
	for sign := -1; sign <= 1; sign += 2 {
		r := sign * 666666667
		checkMul(t, r, 1500000, api.RoundToZero, sign*api.MaxRate, api.OK)
		checkMul(t, r, 1500000, api.RoundHalfEven, sign*api.MaxRate, api.OK)
		checkMul(t, r, 1500000, api.RoundHalfAway, 0, api.ErrRange)
		checkMul(t, r, 1500000, api.RoundFromZero, 0, api.ErrRange)
	}
	checkMul(t, 666666667, 1500000, api.RoundFloor, api.MaxRate, api.OK)
	checkMul(t, 666666667, 1500000, api.RoundCeil, 0, api.ErrRange)
	checkMul(t, -666666667, 1500000, api.RoundFloor, 0, api.ErrRange)
	checkMul(t, -666666667, 1500000, api.RoundCeil, -api.MaxRate, api.OK)
	// A thousandth of a millionth less than MaxRate.
	checkMul(t, 999000999, 1001000, api.RoundFloor, api.MaxRate-1, api.OK)
	checkMul(t, 999000999, 1001000, api.RoundCeil, api.MaxRate, api.OK)
	checkMul(t, -999000999, 1001000, api.RoundHalfEven, -api.MaxRate, api.OK)
	// Five millionths more than MaxRate.
	checkMul(t, 200000001, 5000000, api.RoundFloor, 0, api.ErrRange)
	checkMul(t, -200000001, 5000000, api.RoundCeil, 0, api.ErrRange)
}

func mulReference(a, b, mode int) (int, api.Errno) {
	if isBeyond(big.NewInt(int64(a)), api.MaxRate) || isBeyond(big.NewInt(int64(b)), api.MaxRate) {
		return 0, api.ErrRange
	}
	return reference(bigProduct(a, b), big.NewInt(api.RateOne), mode, api.MaxRate)
}

// rates returns rates of both signs, and some numbers that are too great.
func rates() []int {
	return bothSigns(1, 2, 3, 5, 7, 10, 99, 1000, 1500, 31622, 31623, 125000, 250000, 333333, 499999, 500000, 500001, 999999, api.RateOne, 1000001, 1500000, 2000000, 31622776, 31622777, 333333333, 500000000, 999999999, api.MaxRate, api.MaxRate+1, 1<<32, 1<<62, math.MaxInt)
}

// P3.2
func TestMulAgainstReference(t *testing.T) {
	for _, a := range rates() {
		for _, b := range rates() {
			for _, mode := range modes {
				want, code := mulReference(a, b, mode)
				checkMul(t, a, b, mode, want, code)
			}
		}
	}
}

// P3.2: the first applicable error.
func TestMulErrors(t *testing.T) {
	for _, mode := range wrongModes {
		checkMul(t, 1, 1, mode, 0, api.ErrArg)
		checkMul(t, api.MaxRate+1, 1, mode, 0, api.ErrArg)
		checkMul(t, 1, math.MinInt, mode, 0, api.ErrArg)
		checkMul(t, api.MaxRate, api.MaxRate, mode, 0, api.ErrArg)
	}
	for _, mode := range modes {
		for _, r := range []int{api.MaxRate + 1, -api.MaxRate - 1, math.MaxInt, math.MinInt} {
			checkMul(t, r, 0, mode, 0, api.ErrRange)
			checkMul(t, 0, r, mode, 0, api.ErrRange)
			checkMul(t, r, 1, mode, 0, api.ErrRange)
			checkMul(t, 1, r, mode, 0, api.ErrRange)
		}
	}
}

// P3.3: what money.MulDiv answers, errors included.
func TestApply(t *testing.T) {
	checkApply(t, 1000, 125000, api.RoundHalfAway, 125, api.OK)
	checkApply(t, 10, 50000, api.RoundHalfAway, 1, api.OK)
	checkApply(t, 10, 50000, api.RoundHalfEven, 0, api.OK)
	checkApply(t, -10, 50000, api.RoundFloor, -1, api.OK)
	checkApply(t, -10, 50000, api.RoundCeil, 0, api.OK)
	checkApply(t, api.MaxCents, api.RateOne, api.RoundFloor, api.MaxCents, api.OK)
	checkApply(t, api.MaxCents, -api.RateOne, api.RoundFloor, -api.MaxCents, api.OK)
	checkApply(t, 1000000000000, api.MaxRate, api.RoundFloor, api.MaxCents, api.OK)
	checkApply(t, 1000000000001, api.MaxRate, api.RoundFloor, 0, api.ErrRange)
	checkApply(t, api.MaxCents, api.RateOne+1, api.RoundFloor, 0, api.ErrRange)
	checkApply(t, api.MaxCents+1, 0, api.RoundFloor, 0, api.ErrRange)
	checkApply(t, 0, api.MaxRate+1, api.RoundFloor, 0, api.ErrRange)
	checkApply(t, math.MinInt, math.MinInt, 6, 0, api.ErrArg)
	for _, c := range ratios() {
		for _, r := range rates() {
			for _, mode := range append(modes, wrongModes...) {
				want, code := money.MulDiv(c, r, api.RateOne, mode)
				checkApply(t, c, r, mode, want, code)
			}
		}
	}
}

// P3.4: the example, no day, all days, each mode at both signs and at exact halves, and the greatest arguments.
func TestProrate(t *testing.T) {
	checkProrate(t, 10000, 10, 31, api.RoundHalfAway, 3226, api.OK)
	for _, x := range []struct {
		c, days, total int
		want           [6]int
	}{
		{10000, 10, 31, [6]int{3225, 3226, 3225, 3226, 3226, 3226}},
		{-10000, 10, 31, [6]int{-3226, -3225, -3225, -3226, -3226, -3226}},
		{1, 1, 2, [6]int{0, 1, 0, 1, 1, 0}},
		{-1, 1, 2, [6]int{-1, 0, 0, -1, -1, 0}},
		{3, 15, 30, [6]int{1, 2, 1, 2, 2, 2}},
		{-3, 15, 30, [6]int{-2, -1, -1, -2, -2, -2}},
		{100, 1, 3, [6]int{33, 34, 33, 34, 33, 33}},
		{0, 1, 3, [6]int{}},
		{-7, 0, 1, [6]int{}},
		{-7, 0, 31, [6]int{}},
		{api.MaxCents, 0, allDays, [6]int{}},
		{-7, 1, 1, [6]int{-7, -7, -7, -7, -7, -7}},
		{7, 31, 31, [6]int{7, 7, 7, 7, 7, 7}},
		{api.MaxCents, allDays, allDays, [6]int{api.MaxCents, api.MaxCents, api.MaxCents, api.MaxCents, api.MaxCents, api.MaxCents}},
		{-api.MaxCents, allDays, allDays, [6]int{-api.MaxCents, -api.MaxCents, -api.MaxCents, -api.MaxCents, -api.MaxCents, -api.MaxCents}},
	} {
		for mode, want := range x.want {
			checkProrate(t, x.c, x.days, x.total, mode, want, api.OK)
		}
	}
}

// P3.4
func TestProrateAgainstReference(t *testing.T) {
	amounts := bothSigns(1, 2, 3, 5, 99, 100, 12345, 333333333333, 999999999999999, api.MaxCents)
	totals := []int{1, 2, 3, 4, 7, 28, 29, 30, 31, 365, 366, 65536, allDays - 1, allDays}
	for _, c := range amounts {
		for _, total := range totals {
			for _, days := range []int{0, 1, total / 3, total / 2, total - 1, total} {
				for _, mode := range modes {
					if c == math.MinInt {
						checkProrate(t, c, days, total, mode, 0, api.ErrRange)
						continue
					}
					want, code := reference(bigProduct(c, days), big.NewInt(int64(total)), mode, api.MaxCents)
					checkProrate(t, c, days, total, mode, want, code)
				}
			}
		}
	}
}

// P3.4: the first applicable error.
func TestProrateErrors(t *testing.T) {
	for _, mode := range wrongModes {
		checkProrate(t, 1, 1, 1, mode, 0, api.ErrArg)
		checkProrate(t, 1, 1, 0, mode, 0, api.ErrArg)
		checkProrate(t, 1, 2, 1, mode, 0, api.ErrArg)
		checkProrate(t, 1, 1, allDays+1, mode, 0, api.ErrArg)
		checkProrate(t, api.MaxCents+1, -1, -1, mode, 0, api.ErrArg)
	}
	for _, mode := range modes {
		for _, total := range []int{0, -1, -31, math.MinInt} {
			checkProrate(t, 1, 0, total, mode, 0, api.ErrDivZero)
			checkProrate(t, 1, 1, total, mode, 0, api.ErrDivZero)
			checkProrate(t, 1, -1, total, mode, 0, api.ErrDivZero)
			checkProrate(t, api.MaxCents+1, total, total, mode, 0, api.ErrDivZero)
		}
		for _, total := range []int{allDays + 1, allDays + 2, api.MaxRate, api.MaxRate + 1, math.MaxInt} {
			checkProrate(t, 1, 0, total, mode, 0, api.ErrRange)
			checkProrate(t, 1, 1, total, mode, 0, api.ErrRange)
			checkProrate(t, 1, total, total, mode, 0, api.ErrRange)
		}
		for _, total := range []int{1, 2, 31, allDays} {
			for _, days := range []int{-1, -total, total + 1, total + 2, math.MaxInt, math.MinInt} {
				checkProrate(t, 0, days, total, mode, 0, api.ErrRange)
				checkProrate(t, 1, days, total, mode, 0, api.ErrRange)
			}
			for _, c := range []int{api.MaxCents + 1, -api.MaxCents - 1, math.MaxInt, math.MinInt} {
				checkProrate(t, c, 0, total, mode, 0, api.ErrRange)
				checkProrate(t, c, 1, total, mode, 0, api.ErrRange)
				checkProrate(t, c, total, total, mode, 0, api.ErrRange)
			}
		}
	}
}

// P3.5: examples, no step, one step, and rounding in each step at both signs.
func TestCompound(t *testing.T) {
	checkCompound(t, 10000, 100000, 2, api.RoundHalfAway, 12100, api.OK)
	for _, mode := range modes {
		for _, c := range []int{0, 1, -7, api.MaxCents, -api.MaxCents} {
			for _, r := range []int{0, 1, -api.RateOne, api.MaxRate, -api.MaxRate} {
				checkCompound(t, c, r, 0, mode, c, api.OK)
				checkCompound(t, 0, r, 120, mode, 0, api.OK)
			}
			checkCompound(t, c, 0, 120, mode, c, api.OK)
		}
		checkCompound(t, 5, -api.RateOne, 1, mode, 0, api.OK)
		checkCompound(t, 5, -api.RateOne, 120, mode, 0, api.OK)
		checkCompound(t, 5, -2*api.RateOne, 119, mode, -5, api.OK)
		checkCompound(t, 5, -2*api.RateOne, 120, mode, 5, api.OK)
		checkCompound(t, 1, api.RateOne, 10, mode, 1024, api.OK)
	}
	for mode, want := range [6]int{12, 13, 12, 13, 13, 12} {
		checkCompound(t, 10, 250000, 1, mode, want, api.OK)
	}
	for mode, want := range [6]int{-13, -12, -12, -13, -13, -12} {
		checkCompound(t, -10, 250000, 1, mode, want, api.OK)
	}
	// 10 becomes 12.5, and 12 and 13 become 15 and 16.25; in one step it would be 15.625.
	for mode, want := range [6]int{15, 17, 15, 17, 16, 15} {
		checkCompound(t, 10, 250000, 2, mode, want, api.OK)
	}
	// A cent grows by a cent a step if the interest is rounded up, and never if it is rounded down.
	for mode, want := range [6]int{1, 121, 1, 121, 1, 1} {
		checkCompound(t, 1, 1, 120, mode, want, api.OK)
	}
	for mode, want := range [6]int{-121, -1, -1, -121, -1, -1} {
		checkCompound(t, -1, 1, 120, mode, want, api.OK)
	}
}

// P3.5: steps that fail on the way, in the interest or in the sum.
func TestCompoundBeyondMaxCents(t *testing.T) {
	for _, mode := range modes {
		for sign := -1; sign <= 1; sign += 2 {
			// The sum is MaxCents, and beyond it.
			checkCompound(t, sign*500000000000000, api.RateOne, 1, mode, sign*api.MaxCents, api.OK)
			checkCompound(t, sign*500000000000000, api.RateOne, 2, mode, 0, api.ErrRange)
			checkCompound(t, sign*500000000000001, api.RateOne, 1, mode, 0, api.ErrRange)
			checkCompound(t, sign*api.MaxCents, api.RateOne, 1, mode, 0, api.ErrRange)
			checkCompound(t, sign*api.MaxCents, -api.RateOne, 1, mode, 0, api.OK)
			checkCompound(t, sign*api.MaxCents, -2*api.RateOne, 1, mode, 0, api.ErrRange)
			// The interest is beyond MaxCents, though the sum would not be.
			checkCompound(t, sign*api.MaxCents, -api.RateOne-1, 1, mode, 0, api.ErrRange)
			checkCompound(t, sign*500000000000000, -2*api.RateOne, 1, mode, -sign*500000000000000, api.OK)
			checkCompound(t, sign*500000000000001, -2*api.RateOne, 1, mode, 0, api.ErrRange)
			// 2^49 is less than MaxCents and 2^50 is greater, so the fiftieth doubling fails, and each later one.
			checkCompound(t, sign, api.RateOne, 49, mode, sign*(1<<49), api.OK)
			checkCompound(t, sign, api.RateOne, 50, mode, 0, api.ErrRange)
			checkCompound(t, sign, api.RateOne, 120, mode, 0, api.ErrRange)
			checkCompound(t, sign, api.MaxRate, 4, mode, sign*1001*1001*1001*1001, api.OK)
			checkCompound(t, sign, api.MaxRate, 5, mode, 0, api.ErrRange)
		}
	}
}

// compoundReference adds the interest in integers of any size.
func compoundReference(c, r, n, mode int) (int, api.Errno) {
	for range n {
		interest, code := reference(bigProduct(c, r), big.NewInt(api.RateOne), mode, api.MaxCents)
		if code != api.OK {
			return 0, code
		}
		c += interest
		if isBeyond(big.NewInt(int64(c)), api.MaxCents) {
			return 0, api.ErrRange
		}
	}
	return c, api.OK
}

// P3.5
func TestCompoundAgainstReference(t *testing.T) {
	for _, c := range []int{0, 1, 3, 99, 12345, 333333333333, 999999999999999, api.MaxCents, -1, -50, -12345, -999999999999999, -api.MaxCents} {
		for _, r := range []int{0, 1, 1000, 12345, 250000, 499999, 500000, 999999, api.RateOne, 2000000, api.MaxRate, -1, -12345, -500000, -999999, -1000001, -1500000, -2000001, -api.MaxRate} {
			for _, n := range []int{0, 1, 2, 3, 12, 119, 120} {
				for _, mode := range modes {
					want, code := compoundReference(c, r, n, mode)
					checkCompound(t, c, r, n, mode, want, code)
				}
			}
		}
	}
}

// P3.5: the first applicable error, which needs no step.
func TestCompoundErrors(t *testing.T) {
	for _, mode := range wrongModes {
		checkCompound(t, 1, 1, 0, mode, 0, api.ErrArg)
		checkCompound(t, 1, 1, 1, mode, 0, api.ErrArg)
		checkCompound(t, 1, 1, 121, mode, 0, api.ErrArg)
		checkCompound(t, api.MaxCents+1, 1, 1, mode, 0, api.ErrArg)
		checkCompound(t, 1, api.MaxRate+1, -1, mode, 0, api.ErrArg)
	}
	for _, mode := range modes {
		for _, n := range []int{-1, -120, 121, 122, math.MaxInt, math.MinInt} {
			checkCompound(t, 0, 0, n, mode, 0, api.ErrRange)
			checkCompound(t, 1, 1, n, mode, 0, api.ErrRange)
		}
		for _, n := range []int{0, 1, 120} {
			for _, c := range []int{api.MaxCents + 1, -api.MaxCents - 1, math.MaxInt, math.MinInt} {
				checkCompound(t, c, 0, n, mode, 0, api.ErrRange)
				checkCompound(t, c, -api.RateOne, n, mode, 0, api.ErrRange)
			}
			for _, r := range []int{api.MaxRate + 1, -api.MaxRate - 1, math.MaxInt, math.MinInt} {
				checkCompound(t, 0, r, n, mode, 0, api.ErrRange)
				checkCompound(t, 1, r, n, mode, 0, api.ErrRange)
			}
		}
	}
}

// floorPart is Prorate with RoundFloor, which must succeed.
func floorPart(t *testing.T, c, days, total int) int {
	t.Helper()
	part, code := Prorate(c, days, total, api.RoundFloor)
	if code != api.OK {
		t.Fatalf("Prorate(%d, %d, %d, RoundFloor) fails with %d", c, days, total, code)
	}
	return part
}

// P3.6
func TestProratedParts(t *testing.T) {
	for _, c := range []int{0, 1, 2, 3, 10, 99, 100, 10000, 999999999999999, api.MaxCents} {
		for _, total := range []int{1, 2, 3, 7, 28, 30, 31} {
			for sum := range total + 1 {
				whole := floorPart(t, c, sum, total)
				if whole > c || sum == total && whole != c {
					t.Errorf("the part of %d for %d of %d days is %d", c, sum, total, whole)
				}
				for first := range sum + 1 {
					parts := floorPart(t, c, first, total) + floorPart(t, c, sum-first, total)
					if parts > whole || parts < whole-1 {
						t.Errorf("%d for %d and %d of %d days: %d, together %d", c, first, sum-first, total, parts, whole)
					}
				}
			}
		}
	}
	// Two parts that lose a cent, and two that lose none.
	if floorPart(t, 1, 1, 2) != 0 || floorPart(t, 1, 2, 2) != 1 || floorPart(t, 2, 1, 2) != 1 {
		t.Error("the halves of one and of two cents")
	}
}

// P3.7
func TestNegatedRatio(t *testing.T) {
	opposite := []int{api.RoundCeil, api.RoundFloor, api.RoundToZero, api.RoundFromZero, api.RoundHalfAway, api.RoundHalfEven}
	for _, num := range ratios() {
		for _, den := range ratios() {
			if num == math.MinInt || den == math.MinInt {
				continue
			}
			for mode, other := range opposite {
				want, code := FromRatio(num, den, mode)
				checkFromRatio(t, -num, den, other, -want, code)
				checkFromRatio(t, num, -den, other, -want, code)
				checkFromRatio(t, -num, -den, mode, want, code)
			}
		}
	}
}
