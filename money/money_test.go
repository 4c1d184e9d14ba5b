package money

import (
	"math"
	"math/big"
	"slices"
	"testing"

	"guerdon/api"
)

// bound is the greatest absolute value of an operand of DivRound.
const bound = 1 << 62

var modes = []int{api.RoundFloor, api.RoundCeil, api.RoundToZero, api.RoundFromZero, api.RoundHalfAway, api.RoundHalfEven}

// wrongModes are no rounding modes.
var wrongModes = []int{-1, 6, 7, 256, -256, 1 << 32, math.MaxInt, math.MinInt}

// interestingAmounts returns amounts of both signs around zero and around the bound of amounts.
func interestingAmounts() []int {
	var list []int
	for _, c := range []int{1, 2, 3, 5, 7, 10, 49, 50, 51, 99, 100, 1234, 1250, 333333333333333, 499999999999999, 500000000000000, 666666666666667, 999999999999999, api.MaxCents, api.MaxCents + 1, bound, math.MaxInt} {
		list = append(list, c, -c)
	}
	return append(list, 0, math.MinInt)
}

// interestingRates returns factors and divisors of both signs around zero, around the bound of rates, and such that products and quotients need more than 63 or 64 bits.
func interestingRates() []int {
	var list []int
	for _, r := range []int{1, 2, 3, 6, 7, 11, 16, 54210, 54211, 108420, 108421, 125000, api.RateOne, 333333333, 500000000, 999999999, api.MaxRate, api.MaxRate + 1, 1 << 32, bound, math.MaxInt} {
		list = append(list, r, -r)
	}
	return append(list, 0, math.MinInt)
}

func beyond(n int, limit int) bool {
	return big.NewInt(int64(n)).CmpAbs(big.NewInt(int64(limit))) > 0
}

// roundedReference returns n/d rounded as the chapter defines the modes, in integers of any size.
func roundedReference(n *big.Int, d *big.Int, mode int) *big.Int {
	if d.Sign() < 0 {
		n, d = new(big.Int).Neg(n), new(big.Int).Neg(d)
	}
	floor, rest := new(big.Int).DivMod(n, d, new(big.Int))
	if rest.Sign() == 0 {
		return floor
	}
	ceil := new(big.Int).Add(floor, big.NewInt(1))
	toZero, fromZero := floor, ceil
	if n.Sign() < 0 {
		toZero, fromZero = ceil, floor
	}
	even := floor
	if floor.Bit(0) == 1 {
		even = ceil
	}
	half := new(big.Int).Lsh(rest, 1).Cmp(d)
	switch {
	case mode == api.RoundFloor:
		return floor
	case mode == api.RoundCeil:
		return ceil
	case mode == api.RoundToZero:
		return toZero
	case mode == api.RoundFromZero:
		return fromZero
	case half < 0:
		return floor
	case half > 0:
		return ceil
	case mode == api.RoundHalfAway:
		return fromZero
	}
	return even
}

// centsReference returns the rounded quotient n/d times unit, or ErrRange if that is no amount.
func centsReference(n *big.Int, d *big.Int, unit int, mode int) (int, api.Errno) {
	result := new(big.Int).Mul(roundedReference(n, d, mode), big.NewInt(int64(unit)))
	if result.CmpAbs(big.NewInt(api.MaxCents)) > 0 {
		return 0, api.ErrRange
	}
	return int(result.Int64()), api.OK
}

func checkDivRound(t *testing.T, n, d, mode, want int, code api.Errno) {
	t.Helper()
	if got, e := DivRound(n, d, mode); got != want || e != code {
		t.Errorf("DivRound(%d, %d, %d) = %d, %d, not %d, %d", n, d, mode, got, e, want, code)
	}
}

func checkMulDiv(t *testing.T, c, num, den, mode, want int, code api.Errno) {
	t.Helper()
	if got, e := MulDiv(c, num, den, mode); got != want || e != code {
		t.Errorf("MulDiv(%d, %d, %d, %d) = %d, %d, not %d, %d", c, num, den, mode, got, e, want, code)
	}
}

func checkRoundTo(t *testing.T, c, unit, mode, want int, code api.Errno) {
	t.Helper()
	if got, e := RoundTo(c, unit, mode); got != want || e != code {
		t.Errorf("RoundTo(%d, %d, %d) = %d, %d, not %d, %d", c, unit, mode, got, e, want, code)
	}
}

// The modes are the numbers of the document, so that the tables of the tests may list their results in this order.
func TestModes(t *testing.T) {
	for i, mode := range modes {
		if i != mode {
			t.Errorf("mode %d has the number %d", i, mode)
		}
	}
}

// P2.1: each mode at both signs of both operands, at, below and above exact halves.
func TestDivRound(t *testing.T) {
	for _, x := range []struct {
		n, d int
		want [6]int
	}{
		{7, 2, [6]int{3, 4, 3, 4, 4, 4}},
		{-7, 2, [6]int{-4, -3, -3, -4, -4, -4}},
		{7, -2, [6]int{-4, -3, -3, -4, -4, -4}},
		{-7, -2, [6]int{3, 4, 3, 4, 4, 4}},
		{5, 2, [6]int{2, 3, 2, 3, 3, 2}},
		{-5, 2, [6]int{-3, -2, -2, -3, -3, -2}},
		{5, -2, [6]int{-3, -2, -2, -3, -3, -2}},
		{-5, -2, [6]int{2, 3, 2, 3, 3, 2}},
		{1, 2, [6]int{0, 1, 0, 1, 1, 0}},
		{-1, 2, [6]int{-1, 0, 0, -1, -1, 0}},
		{3, 2, [6]int{1, 2, 1, 2, 2, 2}},
		{-3, 2, [6]int{-2, -1, -1, -2, -2, -2}},
		{7, 3, [6]int{2, 3, 2, 3, 2, 2}},
		{-7, 3, [6]int{-3, -2, -2, -3, -2, -2}},
		{8, 3, [6]int{2, 3, 2, 3, 3, 3}},
		{-8, 3, [6]int{-3, -2, -2, -3, -3, -3}},
		{1, 3, [6]int{0, 1, 0, 1, 0, 0}},
		{-1, 3, [6]int{-1, 0, 0, -1, 0, 0}},
		{6, 3, [6]int{2, 2, 2, 2, 2, 2}},
		{-6, 3, [6]int{-2, -2, -2, -2, -2, -2}},
		{0, -5, [6]int{}},
		{bound, 1, [6]int{bound, bound, bound, bound, bound, bound}},
		{-bound, -1, [6]int{bound, bound, bound, bound, bound, bound}},
		{bound, -1, [6]int{-bound, -bound, -bound, -bound, -bound, -bound}},
		{bound - 1, bound, [6]int{0, 1, 0, 1, 1, 1}},
		{1, -bound, [6]int{-1, 0, 0, -1, 0, 0}},
		{bound / 2, bound, [6]int{0, 1, 0, 1, 1, 0}},
		{bound/2 - 1, bound, [6]int{0, 1, 0, 1, 0, 0}},
		{-bound/2 - 1, bound, [6]int{-1, 0, 0, -1, -1, -1}},
	} {
		for mode, want := range x.want {
			checkDivRound(t, x.n, x.d, mode, want, api.OK)
		}
	}
}

// dividends returns small integers, and neighbours of powers of two up to the bound of DivRound.
func dividends() []int {
	var list []int
	for n := -40; n <= 40; n++ {
		list = append(list, n)
	}
	for shift := 6; shift <= 62; shift += 4 {
		for _, n := range []int{1<<shift - 1, 1 << shift, 1<<shift + 1, 3 << (shift - 2), 1000000007 % (1 << shift)} {
			list = append(list, n, -n)
		}
	}
	return slices.DeleteFunc(list, func(n int) bool { return beyond(n, bound) })
}

// P2.1
func TestDivRoundAgainstReference(t *testing.T) {
	list := dividends()
	if !slices.Contains(list, bound) || !slices.Contains(list, -bound) {
		t.Fatal("the bound is not among the dividends")
	}
	for _, n := range list {
		for _, d := range list {
			for _, mode := range modes {
				if d == 0 {
					checkDivRound(t, n, d, mode, 0, api.ErrDivZero)
					continue
				}
				want := roundedReference(big.NewInt(int64(n)), big.NewInt(int64(d)), mode)
				checkDivRound(t, n, d, mode, int(want.Int64()), api.OK)
			}
		}
	}
}

// P2.1: the first applicable error.
func TestDivRoundErrors(t *testing.T) {
	outside := []int{bound + 1, -bound - 1, math.MaxInt, math.MinInt}
	for _, mode := range wrongModes {
		checkDivRound(t, 1, 1, mode, 0, api.ErrArg)
		checkDivRound(t, 1, 0, mode, 0, api.ErrArg)
		checkDivRound(t, math.MinInt, 0, mode, 0, api.ErrArg)
		checkDivRound(t, 1, math.MaxInt, mode, 0, api.ErrArg)
	}
	for _, mode := range modes {
		checkDivRound(t, 0, 0, mode, 0, api.ErrDivZero)
		for _, n := range outside {
			checkDivRound(t, n, 0, mode, 0, api.ErrDivZero)
			checkDivRound(t, n, 1, mode, 0, api.ErrRange)
			checkDivRound(t, n, -1, mode, 0, api.ErrRange)
			checkDivRound(t, n, n, mode, 0, api.ErrRange)
			checkDivRound(t, 0, n, mode, 0, api.ErrRange)
			checkDivRound(t, 1, n, mode, 0, api.ErrRange)
		}
	}
}

// P2.1: examples, and rounding at the greatest amount.
func TestMulDiv(t *testing.T) {
	checkMulDiv(t, 1000, 125000, 1000000, api.RoundHalfAway, 125, api.OK)
	checkMulDiv(t, 1, 1, 3, api.RoundCeil, 1, api.OK)
	checkMulDiv(t, -1, 1, 3, api.RoundCeil, 0, api.OK)
	checkMulDiv(t, -1, 1, 3, api.RoundFloor, -1, api.OK)
	checkMulDiv(t, 0, -1, 3, api.RoundFloor, 0, api.OK)
	checkMulDiv(t, 5, 0, -3, api.RoundFromZero, 0, api.OK)
	// Rounded once: in two steps this would become 1.
	checkMulDiv(t, 1, 49, 100, api.RoundHalfAway, 0, api.OK)
	checkMulDiv(t, 149, 1, 300, api.RoundHalfAway, 0, api.OK)
	checkMulDiv(t, 3, 333333333, api.MaxRate, api.RoundFloor, 0, api.OK)
	checkMulDiv(t, 3, 333333333, api.MaxRate, api.RoundHalfEven, 1, api.OK)
	checkMulDiv(t, api.MaxCents, api.MaxRate, api.MaxRate, api.RoundFromZero, api.MaxCents, api.OK)
	checkMulDiv(t, -api.MaxCents, -api.MaxRate, -api.MaxRate, api.RoundFromZero, -api.MaxCents, api.OK)
	checkMulDiv(t, api.MaxCents, 1, api.MaxRate, api.RoundFloor, 1000000, api.OK)
	for sign := -1; sign <= 1; sign += 2 {
		// 666666666666667*3/2 is MaxCents and a half, 666666666666666*3/2 is MaxCents less 1.
		c := sign * 666666666666667
		checkMulDiv(t, c, 3, 2, api.RoundToZero, sign*api.MaxCents, api.OK)
		checkMulDiv(t, c, 3, 2, api.RoundHalfEven, sign*api.MaxCents, api.OK)
		checkMulDiv(t, c, 3, 2, api.RoundHalfAway, 0, api.ErrRange)
		checkMulDiv(t, c, 3, 2, api.RoundFromZero, 0, api.ErrRange)
		checkMulDiv(t, c-sign, 3, 2, api.RoundFromZero, sign*(api.MaxCents-1), api.OK)
		checkMulDiv(t, -c, -3, 2, api.RoundToZero, sign*api.MaxCents, api.OK)
		checkMulDiv(t, -c, 3, -2, api.RoundToZero, sign*api.MaxCents, api.OK)
		checkMulDiv(t, c, -3, -2, api.RoundToZero, sign*api.MaxCents, api.OK)
	}
	checkMulDiv(t, 666666666666667, 3, 2, api.RoundFloor, api.MaxCents, api.OK)
	checkMulDiv(t, 666666666666667, 3, 2, api.RoundCeil, 0, api.ErrRange)
	checkMulDiv(t, -666666666666667, 3, 2, api.RoundFloor, 0, api.ErrRange)
	checkMulDiv(t, -666666666666667, 3, 2, api.RoundCeil, -api.MaxCents, api.OK)
}

func mulDivReference(c, num, den, mode int) (int, api.Errno) {
	if den == 0 {
		return 0, api.ErrDivZero
	}
	if beyond(c, api.MaxCents) || beyond(num, api.MaxRate) || beyond(den, api.MaxRate) {
		return 0, api.ErrRange
	}
	product := new(big.Int).Mul(big.NewInt(int64(c)), big.NewInt(int64(num)))
	return centsReference(product, big.NewInt(int64(den)), 1, mode)
}

// P2.1: with results of up to 80 bits, and with arguments out of range.
func TestMulDivAgainstReference(t *testing.T) {
	rates := interestingRates()
	for _, c := range interestingAmounts() {
		for _, num := range rates {
			for _, den := range rates {
				for _, mode := range modes {
					want, code := mulDivReference(c, num, den, mode)
					checkMulDiv(t, c, num, den, mode, want, code)
				}
			}
		}
	}
	for c := -12; c <= 12; c++ {
		for num := -7; num <= 7; num++ {
			for den := -10; den <= 10; den++ {
				for _, mode := range modes {
					want, code := mulDivReference(c, num, den, mode)
					checkMulDiv(t, c, num, den, mode, want, code)
				}
			}
		}
	}
}

// P2.1: the first applicable error.
func TestMulDivErrors(t *testing.T) {
	for _, mode := range wrongModes {
		checkMulDiv(t, 1, 1, 1, mode, 0, api.ErrArg)
		checkMulDiv(t, api.MaxCents+1, 1, 0, mode, 0, api.ErrArg)
		checkMulDiv(t, 1, 1, api.MaxRate+1, mode, 0, api.ErrArg)
	}
	for _, mode := range modes {
		for sign := -1; sign <= 1; sign += 2 {
			checkMulDiv(t, sign*(api.MaxCents+1), 1, 0, mode, 0, api.ErrDivZero)
			checkMulDiv(t, 1, sign*(api.MaxRate+1), 0, mode, 0, api.ErrDivZero)
			checkMulDiv(t, sign*(api.MaxCents+1), 0, 1, mode, 0, api.ErrRange)
			checkMulDiv(t, 0, sign*(api.MaxRate+1), 1, mode, 0, api.ErrRange)
			checkMulDiv(t, 0, 0, sign*(api.MaxRate+1), mode, 0, api.ErrRange)
			checkMulDiv(t, sign*api.MaxCents, 2, 1, mode, 0, api.ErrRange)
			checkMulDiv(t, sign*api.MaxCents, api.MaxRate, 1, mode, 0, api.ErrRange)
		}
		checkMulDiv(t, math.MinInt, 1, 1, mode, 0, api.ErrRange)
		checkMulDiv(t, 1, math.MinInt, 1, mode, 0, api.ErrRange)
		checkMulDiv(t, 1, 1, math.MinInt, mode, 0, api.ErrRange)
	}
}

// P2.1: each mode at both signs, at exact halves of the unit, and at the greatest amount.
func TestRoundTo(t *testing.T) {
	for _, x := range []struct {
		c, unit int
		want    [6]int
	}{
		{1234, 100, [6]int{1200, 1300, 1200, 1300, 1200, 1200}},
		{-1234, 100, [6]int{-1300, -1200, -1200, -1300, -1200, -1200}},
		{1250, 100, [6]int{1200, 1300, 1200, 1300, 1300, 1200}},
		{-1250, 100, [6]int{-1300, -1200, -1200, -1300, -1300, -1200}},
		{1350, 100, [6]int{1300, 1400, 1300, 1400, 1400, 1400}},
		{-1350, 100, [6]int{-1400, -1300, -1300, -1400, -1400, -1400}},
		{1251, 100, [6]int{1200, 1300, 1200, 1300, 1300, 1300}},
		{1200, 100, [6]int{1200, 1200, 1200, 1200, 1200, 1200}},
		{-1200, 100, [6]int{-1200, -1200, -1200, -1200, -1200, -1200}},
		{0, 7, [6]int{}},
		{-17, 1, [6]int{-17, -17, -17, -17, -17, -17}},
		{3, api.MaxCents, [6]int{0, api.MaxCents, 0, api.MaxCents, 0, 0}},
		{-3, api.MaxCents, [6]int{-api.MaxCents, 0, 0, -api.MaxCents, 0, 0}},
		{api.MaxCents, 1, [6]int{api.MaxCents, api.MaxCents, api.MaxCents, api.MaxCents, api.MaxCents, api.MaxCents}},
		{-api.MaxCents, api.MaxCents, [6]int{-api.MaxCents, -api.MaxCents, -api.MaxCents, -api.MaxCents, -api.MaxCents, -api.MaxCents}},
	} {
		for mode, want := range x.want {
			checkRoundTo(t, x.c, x.unit, mode, want, api.OK)
		}
	}
}

func roundToReference(c, unit, mode int) (int, api.Errno) {
	if unit < 1 {
		return 0, api.ErrDivZero
	}
	if beyond(c, api.MaxCents) || beyond(unit, api.MaxCents) {
		return 0, api.ErrRange
	}
	return centsReference(big.NewInt(int64(c)), big.NewInt(int64(unit)), unit, mode)
}

// P2.1
func TestRoundToAgainstReference(t *testing.T) {
	amounts := interestingAmounts()
	for _, c := range amounts {
		for _, unit := range amounts {
			for _, mode := range modes {
				want, code := roundToReference(c, unit, mode)
				checkRoundTo(t, c, unit, mode, want, code)
			}
		}
	}
	for c := -40; c <= 40; c++ {
		for unit := -2; unit <= 13; unit++ {
			for _, mode := range modes {
				want, code := roundToReference(c, unit, mode)
				checkRoundTo(t, c, unit, mode, want, code)
			}
		}
	}
}

// P2.1: the first applicable error.
func TestRoundToErrors(t *testing.T) {
	for _, mode := range wrongModes {
		checkRoundTo(t, 1, 1, mode, 0, api.ErrArg)
		checkRoundTo(t, 1, 0, mode, 0, api.ErrArg)
		checkRoundTo(t, api.MaxCents+1, -1, mode, 0, api.ErrArg)
		checkRoundTo(t, 1, api.MaxCents+1, mode, 0, api.ErrArg)
	}
	for _, mode := range modes {
		for _, unit := range []int{0, -1, -api.MaxCents - 1, math.MinInt} {
			checkRoundTo(t, 0, unit, mode, 0, api.ErrDivZero)
			checkRoundTo(t, api.MaxCents+1, unit, mode, 0, api.ErrDivZero)
		}
		for _, unit := range []int{api.MaxCents + 1, math.MaxInt} {
			checkRoundTo(t, 0, unit, mode, 0, api.ErrRange)
		}
		for _, c := range []int{api.MaxCents + 1, -api.MaxCents - 1, math.MaxInt, math.MinInt} {
			checkRoundTo(t, c, 1, mode, 0, api.ErrRange)
			checkRoundTo(t, c, 7, mode, 0, api.ErrRange)
		}
	}
	// The amount is in range, the multiple beside it is not: 3*333333333333334 is MaxCents+2.
	checkRoundTo(t, api.MaxCents, 3, api.RoundFloor, 999999999999999, api.OK)
	checkRoundTo(t, api.MaxCents, 3, api.RoundCeil, 0, api.ErrRange)
	checkRoundTo(t, -api.MaxCents, 3, api.RoundFloor, 0, api.ErrRange)
	checkRoundTo(t, -api.MaxCents, 3, api.RoundCeil, -999999999999999, api.OK)
	checkRoundTo(t, api.MaxCents, api.MaxCents-1, api.RoundFromZero, 0, api.ErrRange)
}

func checkAllocate(t *testing.T, c int, weights []int, want []int) {
	t.Helper()
	if got, e := Allocate(c, weights); e != api.OK || !slices.Equal(got, want) {
		t.Errorf("Allocate(%d, %d) = %d, %d, not %d", c, weights, got, e, want)
	}
}

// P2.2
func TestAllocate(t *testing.T) {
	for _, x := range []struct {
		c             int
		weights, want []int
	}{
		{100, []int{1, 1, 1}, []int{34, 33, 33}},
		{-100, []int{1, 1, 1}, []int{-34, -33, -33}},
		{10, []int{1, 2, 0}, []int{3, 7, 0}},
		{-10, []int{1, 2, 0}, []int{-3, -7, 0}},
		// The greatest remainders come first, wherever they stand.
		{10, []int{0, 2, 1}, []int{0, 7, 3}},
		{10, []int{1, 2}, []int{3, 7}},
		{10, []int{2, 1}, []int{7, 3}},
		{1, []int{3, 4, 5}, []int{0, 0, 1}},
		{2, []int{3, 4, 5}, []int{0, 1, 1}},
		{-2, []int{3, 4, 5}, []int{0, -1, -1}},
		{2, []int{5, 3, 4}, []int{1, 0, 1}},
		// Among equal remainders the earlier shares come first, of unequal weights too: 1/4 of 6 and 3/4 of 6 both leave a half.
		{6, []int{1, 3}, []int{2, 4}},
		{6, []int{3, 1}, []int{5, 1}},
		{5, []int{1, 1, 1, 1}, []int{2, 1, 1, 1}},
		{7, []int{1, 1, 1, 1}, []int{2, 2, 2, 1}},
		{-7, []int{1, 1, 1, 1}, []int{-2, -2, -2, -1}},
		{2, []int{1, 1, 2, 2}, []int{0, 0, 1, 1}},
		{3, []int{0, 5, 0, 5, 0}, []int{0, 2, 0, 1, 0}},
		{8, []int{1, 1, 2}, []int{2, 2, 4}},
		{0, []int{5}, []int{0}},
		{0, []int{0, 3, 1}, []int{0, 0, 0}},
		{17, []int{5}, []int{17}},
		{17, []int{0, 5, 0}, []int{0, 17, 0}},
		{1, []int{api.MaxRate, 1}, []int{1, 0}},
		{api.MaxCents, []int{api.MaxRate}, []int{api.MaxCents}},
		{api.MaxCents, []int{api.MaxRate, api.MaxRate}, []int{api.MaxCents / 2, api.MaxCents / 2}},
		{-api.MaxCents, []int{api.MaxRate, api.MaxRate, api.MaxRate}, []int{-333333333333334, -333333333333333, -333333333333333}},
		{api.MaxCents, []int{1, api.MaxRate}, []int{1000000, api.MaxCents - 1000000}},
	} {
		checkAllocate(t, x.c, x.weights, x.want)
	}
}

// weightLists returns every list of 1 to 4 weights of 0 to 4, and longer and greater ones, each with a sum above zero.
func weightLists() [][]int {
	var lists [][]int
	last := [][]int{nil}
	for range 4 {
		var longer [][]int
		for _, list := range last {
			for weight := range 5 {
				longer = append(longer, append(slices.Clone(list), weight))
			}
		}
		lists = append(lists, longer...)
		last = longer
	}
	lists = append(lists, []int{api.MaxRate, 1, 0, 1}, []int{1, api.MaxRate, api.MaxRate - 1}, []int{7, 7, 7, 7, 7, 7, 7},
		slices.Repeat([]int{api.MaxRate}, 64), slices.Repeat([]int{1}, 64), slices.Repeat([]int{1, 0, 999999937, api.MaxRate}, 16))
	mixed := make([]int, 64)
	for i := range mixed {
		mixed[i] = i * i * 7919 % 100003
	}
	lists = append(lists, mixed, mixed[:17], mixed[30:])
	return slices.DeleteFunc(lists, func(list []int) bool { return slices.Max(list) == 0 })
}

// allocateReference gives each cent that remains to the first share with the greatest remainder that has not yet had one.
func allocateReference(c int, weights []int) []int {
	if c < 0 {
		shares := allocateReference(-c, weights)
		for i := range shares {
			shares[i] *= -1
		}
		return shares
	}
	total := 0
	for _, weight := range weights {
		total += weight
	}
	shares := make([]int, len(weights))
	remainders := make([]*big.Int, len(weights))
	left := c
	for i, weight := range weights {
		product := new(big.Int).Mul(big.NewInt(int64(c)), big.NewInt(int64(weight)))
		share, remainder := new(big.Int).DivMod(product, big.NewInt(int64(total)), new(big.Int))
		shares[i], remainders[i] = int(share.Int64()), remainder
		left -= shares[i]
	}
	for range left {
		best := 0
		for i, remainder := range remainders {
			if remainder.Cmp(remainders[best]) > 0 {
				best = i
			}
		}
		shares[best]++
		remainders[best] = big.NewInt(-1)
	}
	return shares
}

// checkShares checks what P2.2 promises of the shares of an amount.
func checkShares(t *testing.T, c int, weights []int, shares []int) {
	t.Helper()
	sum, total := 0, 0
	for i, weight := range weights {
		sum += shares[i]
		total += weight
	}
	if sum != c {
		t.Errorf("the shares %d of %d by %d add up to %d", shares, c, weights, sum)
	}
	sign := 1
	if c < 0 {
		sign = -1
	}
	for i, weight := range weights {
		share := sign * shares[i]
		exact := new(big.Rat).SetFrac(new(big.Int).Mul(big.NewInt(int64(sign*c)), big.NewInt(int64(weight))), big.NewInt(int64(total)))
		off := exact.Sub(exact, big.NewRat(int64(share), 1))
		if off.Abs(off).Cmp(big.NewRat(1, 1)) >= 0 {
			t.Errorf("share %d of %d by %d is %d", i, c, weights, shares[i])
		}
		for j, other := range weights {
			otherShare := sign * shares[j]
			if weight > other && share < otherShare {
				t.Errorf("shares %d and %d of %d by %d are %d and %d", i, j, c, weights, shares[i], shares[j])
			}
			if weight == other && i < j && (share < otherShare || share > otherShare+1) {
				t.Errorf("equal shares %d and %d of %d by %d are %d and %d", i, j, c, weights, shares[i], shares[j])
			}
		}
	}
}

// P2.2: against a reference, and each property by itself.
func TestAllocateProperties(t *testing.T) {
	for _, weights := range weightLists() {
		amounts := []int{999999999999937, api.MaxCents - 1, api.MaxCents}
		for c := range 24 {
			amounts = append(amounts, c)
		}
		for _, c := range amounts {
			for _, c := range []int{c, -c} {
				before := slices.Clone(weights)
				shares, e := Allocate(c, weights)
				if e != api.OK || !slices.Equal(shares, allocateReference(c, weights)) {
					t.Fatalf("Allocate(%d, %d) = %d, %d", c, weights, shares, e)
				}
				if !slices.Equal(weights, before) {
					t.Fatalf("the weights %d became %d", before, weights)
				}
				checkShares(t, c, weights, shares)
			}
		}
	}
}

// P2.2: the first applicable error, and the greatest arguments without one.
func TestAllocateErrors(t *testing.T) {
	zeros := make([]int, 65)
	ones := slices.Repeat([]int{1}, 65)
	for _, x := range []struct {
		c       int
		weights []int
		code    api.Errno
	}{
		{1, nil, api.ErrDivZero}, {0, nil, api.ErrDivZero}, {0, []int{}, api.ErrDivZero}, {-1, []int{0}, api.ErrDivZero},
		{1, []int{0, 0}, api.ErrDivZero}, {api.MaxCents, zeros[:64], api.ErrDivZero},
		{1, zeros, api.ErrTooLong}, {0, ones, api.ErrTooLong}, {-api.MaxCents, append(slices.Clone(ones), ones...), api.ErrTooLong},
		{api.MaxCents + 1, []int{1}, api.ErrRange}, {-api.MaxCents - 1, []int{1}, api.ErrRange},
		{math.MaxInt, []int{1}, api.ErrRange}, {math.MinInt, []int{1}, api.ErrRange},
		{api.MaxCents + 1, nil, api.ErrRange}, {-api.MaxCents - 1, []int{0, 0}, api.ErrRange}, {api.MaxCents + 1, ones, api.ErrRange},
		{1, []int{-1}, api.ErrRange}, {1, []int{1, -1}, api.ErrRange}, {1, []int{-1, 5}, api.ErrRange}, {0, []int{5, 0, -5}, api.ErrRange},
		{1, []int{1, api.MaxRate + 1}, api.ErrRange}, {1, []int{api.MaxRate + 1, 0}, api.ErrRange},
		{1, []int{math.MinInt}, api.ErrRange}, {1, []int{math.MaxInt, math.MaxInt, 2}, api.ErrRange},
		{1, append(slices.Clone(ones), -1), api.ErrRange}, {1, append(slices.Clone(zeros), api.MaxRate+1), api.ErrRange},
	} {
		if shares, e := Allocate(x.c, x.weights); shares != nil || e != x.code {
			t.Errorf("Allocate(%d, %d) = %d, %d, not %d", x.c, x.weights, shares, e, x.code)
		}
	}
	checkAllocate(t, 128, ones[:64], slices.Repeat([]int{2}, 64))
	checkAllocate(t, -api.MaxCents, []int{0, api.MaxRate}, []int{0, -api.MaxCents})
}

// R4: no two answers share memory.
func TestSharesAreNew(t *testing.T) {
	weights := []int{1, 2}
	shares, _ := Allocate(3, weights)
	shares[0] = 7
	if again, _ := Allocate(3, weights); !slices.Equal(again, weights) {
		t.Error(again)
	}
}

// P2.3
func TestSum(t *testing.T) {
	for _, x := range []struct {
		l    []int
		want int
		code api.Errno
	}{
		{nil, 0, api.OK}, {[]int{}, 0, api.OK}, {[]int{0}, 0, api.OK}, {[]int{5, -7}, -2, api.OK}, {[]int{1, 2, 3, -10}, -4, api.OK},
		{[]int{api.MaxCents}, api.MaxCents, api.OK}, {[]int{-api.MaxCents}, -api.MaxCents, api.OK},
		{[]int{api.MaxCents, -api.MaxCents, -api.MaxCents}, -api.MaxCents, api.OK},
		{[]int{api.MaxCents, -1, 1}, api.MaxCents, api.OK}, {[]int{api.MaxCents - 1, 1}, api.MaxCents, api.OK},
		// An amount out of range, whatever the sum.
		{[]int{api.MaxCents + 1}, 0, api.ErrRange}, {[]int{-api.MaxCents - 1}, 0, api.ErrRange},
		{[]int{-1, api.MaxCents + 1}, 0, api.ErrRange}, {[]int{1, -api.MaxCents - 1}, 0, api.ErrRange},
		{[]int{math.MaxInt}, 0, api.ErrRange}, {[]int{math.MinInt}, 0, api.ErrRange}, {[]int{0, 0, math.MinInt}, 0, api.ErrRange},
		{[]int{1, math.MaxInt}, 0, api.ErrRange}, {[]int{-1, math.MinInt}, 0, api.ErrRange},
		{[]int{math.MinInt, math.MinInt}, 0, api.ErrRange}, {[]int{math.MaxInt, math.MinInt, 1}, 0, api.ErrRange},
		// A sum out of range on the way, whatever the last one.
		{[]int{api.MaxCents, 1}, 0, api.ErrRange}, {[]int{-api.MaxCents, -1}, 0, api.ErrRange},
		{[]int{api.MaxCents, 1, -1}, 0, api.ErrRange}, {[]int{-api.MaxCents, -1, 1}, 0, api.ErrRange},
		{[]int{1, api.MaxCents, -1}, 0, api.ErrRange}, {[]int{api.MaxCents, api.MaxCents, -api.MaxCents}, 0, api.ErrRange},
	} {
		before := slices.Clone(x.l)
		if got, e := Sum(x.l); got != x.want || e != x.code {
			t.Errorf("Sum(%d) = %d, %d, not %d, %d", x.l, got, e, x.want, x.code)
		}
		if !slices.Equal(x.l, before) {
			t.Errorf("the list %d became %d", before, x.l)
		}
	}
	// There is no bound on the number of amounts.
	if got, e := Sum(slices.Repeat([]int{10000000000}, 100000)); got != api.MaxCents || e != api.OK {
		t.Error(got, e)
	}
	if got, e := Sum(slices.Repeat([]int{-10000000000}, 100001)); got != 0 || e != api.ErrRange {
		t.Error(got, e)
	}
}

// allModes returns the results of DivRound in the six modes.
func allModes(t *testing.T, n, d int) [6]int {
	t.Helper()
	var results [6]int
	for mode := range results {
		result, e := DivRound(n, d, mode)
		if e != api.OK {
			t.Fatalf("DivRound(%d, %d, %d) fails with %d", n, d, mode, e)
		}
		results[mode] = result
	}
	return results
}

// P2.4
func TestModesAmongEachOther(t *testing.T) {
	for _, n := range dividends() {
		for _, d := range dividends() {
			if d == 0 {
				continue
			}
			results, negated := allModes(t, n, d), allModes(t, -n, d)
			floor, ceil := results[api.RoundFloor], results[api.RoundCeil]
			if slices.Min(results[:]) != floor || slices.Max(results[:]) != ceil {
				t.Errorf("%d/%d: %d", n, d, results)
			}
			if ceil-floor > 1 || (floor == ceil) != (n%d == 0) {
				t.Errorf("%d/%d: between %d and %d", n, d, floor, ceil)
			}
			if negated[api.RoundFloor] != -ceil || negated[api.RoundCeil] != -floor {
				t.Errorf("%d/%d: %d and %d", n, d, results, negated)
			}
			for mode := api.RoundToZero; mode <= api.RoundHalfEven; mode++ {
				if negated[mode] != -results[mode] {
					t.Errorf("%d/%d in mode %d: %d and %d", n, d, mode, results[mode], negated[mode])
				}
			}
		}
	}
}
