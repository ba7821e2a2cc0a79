package fsum

import (
	"math"
	"math/big"
	"slices"
	"testing"

	"scarp/api"
)

// nanBits is the NaN's pattern, written out so that a slip in a package's constants can't hide.
const nanBits = 0x7ff8000000000000

// otherNaNs are patterns of NaNs that are not the NaN: signalling and quiet, of both signs.
var otherNaNs = []uint64{
	0x7ff0000000000001,
	0x7ff7ffffffffffff,
	0x7ff8000000000001, // math.NaN's
	0x7fffffffffffffff,
	0xfff0000000000001,
	0xfff8000000000000,
	0xffffffffffffffff,
}

var (
	inf       = math.Inf(1)
	minusInf  = math.Inf(-1)
	minusZero = math.Copysign(0, -1)
	nan       = math.Float64frombits(nanBits)
	otherNaN  = math.Float64frombits(0xfff0000000000001)
)

const (
	greatest = math.MaxFloat64
	least    = math.SmallestNonzeroFloat64
	normal   = 0x1p-1022 // the smallest one
)

// few are enough numbers to build every short list of.
func few() []float64 {
	return []float64{minusInf, -greatest, -1, -least, minusZero, 0, least, 0.1, 3, greatest, inf, otherNaN}
}

// pattern looks at a number without the program, so that zeros and NaNs are told apart.
func pattern(x float64) uint64 { return math.Float64bits(x) }

func patterns(l []float64) []uint64 {
	out := make([]uint64, len(l))
	for i, x := range l {
		out[i] = pattern(x)
	}
	return out
}

func isFinite(x float64) bool { return !math.IsNaN(x) && !math.IsInf(x, 0) }

// roundedOnce is the number nearest to an exact value; a zero takes the sign that the machine gives it.
func roundedOnce(exact *big.Rat, byMachine float64) float64 {
	if exact.Sign() == 0 {
		return byMachine
	}
	x, _ := exact.Float64()
	return x
}

func rat(x float64) *big.Rat { return new(big.Rat).SetFloat64(x) }

// plus, minus, times and over work exactly and round once, so that nothing can be fused in them.
func plus(a, b float64) float64 {
	if !isFinite(a) || !isFinite(b) {
		return a + b
	}
	return roundedOnce(new(big.Rat).Add(rat(a), rat(b)), a+b)
}

func minus(a, b float64) float64 { return plus(a, -b) }

func times(a, b float64) float64 {
	if !isFinite(a) || !isFinite(b) {
		return a * b
	}
	return roundedOnce(new(big.Rat).Mul(rat(a), rat(b)), a*b)
}

func over(a float64, n int) float64 {
	if !isFinite(a) {
		return a
	}
	return roundedOnce(new(big.Rat).Quo(rat(a), big.NewRat(int64(n), 1)), a)
}

// sumByWords follows P4.1 step by step.
func sumByWords(l []float64) float64 {
	negative := 0
	s, c := 0.0, 0.0
	for _, x := range l {
		if pattern(x) == pattern(minusZero) {
			negative++
		}
		t := plus(s, x)
		if !(math.Abs(s) < math.Abs(x)) {
			c = plus(c, plus(minus(s, t), x))
		} else {
			c = plus(c, plus(minus(x, t), s))
		}
		s = t
	}
	if len(l) > 0 && negative == len(l) {
		return minusZero
	}
	if math.IsNaN(c) {
		return s
	}
	return plus(s, c)
}

func meanByWords(l []float64) float64 { return over(sumByWords(l), len(l)) }

func spreadByWords(l []float64) float64 {
	m := meanByWords(l)
	var squares []float64
	for _, x := range l {
		squares = append(squares, times(minus(x, m), minus(x, m)))
	}
	return over(sumByWords(squares), len(l))
}

func dotByWords(a, b []float64) float64 {
	var products []float64
	for i := range a {
		products = append(products, times(a[i], b[i]))
	}
	return sumByWords(products)
}

// order compares by values, apart from the zeros; there is no NaN.
func order(a, b float64) int {
	switch {
	case a < b || a == b && math.Signbit(a) && !math.Signbit(b):
		return -1
	case a > b || a == b && math.Signbit(b) && !math.Signbit(a):
		return 1
	}
	return 0
}

func quantileByWords(l []float64, q float64) float64 {
	if slices.ContainsFunc(l, math.IsNaN) {
		return nan
	}
	l = slices.Clone(l)
	slices.SortFunc(l, order)
	k := times(q, float64(len(l)-1))
	low := 0
	for float64(low+1) <= k {
		low++
	}
	high := low + 1
	if high > len(l)-1 {
		high = len(l) - 1
	}
	if pattern(l[low]) == pattern(l[high]) || k == float64(low) {
		return l[low]
	}
	x := plus(l[low], times(minus(k, float64(low)), minus(l[high], l[low])))
	if math.IsNaN(x) {
		return l[low]
	}
	return x
}

// check compares patterns; where a NaN is wanted it is the NaN.
func check(t *testing.T, what string, args any, got, want float64) {
	t.Helper()
	if math.IsNaN(want) {
		want = nan
	}
	if pattern(got) != pattern(want) {
		t.Fatalf("%s of %v = %x (%v), want %x (%v)", what, args, pattern(got), got, pattern(want), want)
	}
}

func checkSum(t *testing.T, l []float64, want float64) {
	t.Helper()
	check(t, "Sum", l, Sum(l...), want)
}

func checkResult(t *testing.T, what string, args any, got float64, code api.Errno, want float64) {
	t.Helper()
	if code != api.OK {
		t.Fatalf("%s of %v is refused: %d", what, args, code)
	}
	check(t, what, args, got, want)
}

func checkMean(t *testing.T, l []float64, want float64) {
	t.Helper()
	got, code := Mean(l...)
	checkResult(t, "Mean", l, got, code, want)
}

func checkSpread(t *testing.T, l []float64, want float64) {
	t.Helper()
	got, code := Spread(l...)
	checkResult(t, "Spread", l, got, code, want)
}

func checkQuantile(t *testing.T, l []float64, q, want float64) {
	t.Helper()
	got, code := Quantile(l, q)
	checkResult(t, "Quantile", []any{l, q}, got, code, want)
}

func checkDot(t *testing.T, a, b []float64, want float64) {
	t.Helper()
	got, code := Dot(a, b)
	checkResult(t, "Dot", []any{a, b}, got, code, want)
}

func checkRefused(t *testing.T, what string, got float64, code, want api.Errno) {
	t.Helper()
	if code != want || pattern(got) != 0 {
		t.Errorf("%s = %v, %d, want 0, %d", what, got, code, want)
	}
}

// shortLists calls f with every list of at most size numbers of from.
func shortLists(from []float64, size int, f func(l []float64)) {
	var grow func(l []float64)
	grow = func(l []float64) {
		f(l)
		if len(l) == size {
			return
		}
		for _, x := range from {
			grow(append(slices.Clone(l), x))
		}
	}
	grow(nil)
}

// dice answers numbers below n, the same ones at each run.
func dice(seed int) func(n int) int {
	state := uint64(seed)
	return func(n int) int {
		state = state*6364136223846793005 + 1442695040888963407
		return int((state >> 33) % uint64(n))
	}
}

// mixed are size numbers of either sign whose exponents lie from low to high.
func mixed(seed, size, low, high int) []float64 {
	throw := dice(seed)
	out := make([]float64, size)
	for i := range out {
		x := math.Ldexp(1+float64(throw(1<<30))/(1<<30)+float64(throw(1<<22))/(1<<52), low+throw(high-low+1))
		if throw(2) == 1 {
			x = -x
		}
		out[i] = x
	}
	return out
}

// manyLists calls f with lists of numbers near to each other, far from each other, subnormal, and close to infinity.
func manyLists(f func(l []float64)) {
	for seed := range 60 {
		for _, ends := range [][2]int{{0, 0}, {-3, 3}, {-60, 60}, {-1074, 1023}, {-1074, -1020}, {1015, 1023}, {-560, -500}, {505, 515}} {
			f(mixed(seed, 1+seed%17, ends[0], ends[1]))
		}
	}
}

func repeated(x float64, times int) []float64 {
	out := make([]float64, times)
	for i := range out {
		out[i] = x
	}
	return out
}

func TestP4_1SumKnown(t *testing.T) {
	for _, c := range []struct {
		want float64
		l    []float64
	}{
		{0, nil},
		{2, []float64{1, 1e100, 1, -1e100}}, // the chapter's example
		{7, []float64{3, 4}},
		{-2.5, []float64{-2.5}},
		{greatest, []float64{greatest}},
		{-greatest, []float64{-greatest}},
		{least, []float64{least}},
		{-least, []float64{-least}},
		{0.6, []float64{0.1, 0.2, 0.3}},
		{1, repeated(0.1, 10)},
		{0x1p53 + 2, []float64{0x1p53, 1, 1}},
		{0x1p53 + 2, []float64{1, 1, 0x1p53}},
		{0x1p53 + 2, []float64{1, 0x1p53, 1}},
		{-0x1p53 - 2, []float64{-0x1p53, -1, -1}},
		{1 + 0x1p-52, []float64{1, 0x1p-54, 0x1p-54, 0x1p-54}},
		{1, []float64{1, 0x1p-53}},
		{1, []float64{1e100, 1, -1e100}},
		{1, []float64{1, 1e100, -1e100}},
		{1, []float64{-1e100, 1, 1e100}},
		{1, []float64{1e100, -1e100, 1}},
		{1, []float64{1e200, -1e200, 1e100, -1e100, 1}},
		{0, []float64{1, 1e100, 1e200, -1e200, -1e100}}, // the order tells: 1 is lost beside a correction of 1e100
		{least, []float64{least, greatest, -greatest}},
		{least, []float64{greatest, least, -greatest}},
		{-least, []float64{-greatest, -least, greatest}},
	} {
		checkSum(t, c.l, c.want)
	}
}

func TestP4_1SumOfSubnormals(t *testing.T) {
	checkSum(t, []float64{least, least}, 2*least)
	checkSum(t, []float64{least, -least}, 0)
	checkSum(t, []float64{-least, least}, 0)
	checkSum(t, []float64{-least, -least, -least}, -3*least)
	checkSum(t, repeated(least, 1000), 1000*least)
	checkSum(t, []float64{normal, -least}, math.Float64frombits(0x000fffffffffffff))
	checkSum(t, []float64{math.Float64frombits(0x000fffffffffffff), least}, normal)
}

func TestP4_1SumOfZeros(t *testing.T) {
	for size := 1; size <= 40; size++ {
		checkSum(t, repeated(minusZero, size), minusZero)
		checkSum(t, repeated(0, size), 0)
		for at := range size {
			l := repeated(minusZero, size)
			l[at] = 0
			checkSum(t, l, 0)
			l[at] = -7
			checkSum(t, l, -7)
		}
	}
	checkSum(t, []float64{1, -1}, 0)
	checkSum(t, []float64{-1, 1}, 0)
	checkSum(t, []float64{minusZero, -1, 1}, 0)
	checkSum(t, []float64{-1, minusZero, 1, minusZero}, 0)
}

func TestP4_1SumOfInfinities(t *testing.T) {
	for _, c := range []struct {
		want float64
		l    []float64
	}{
		{inf, []float64{inf}},
		{minusInf, []float64{minusInf}},
		{inf, []float64{inf, inf}},
		{minusInf, []float64{minusInf, minusInf, minusInf}},
		{inf, []float64{inf, 1}},
		{inf, []float64{1, inf}},
		{inf, []float64{-greatest, inf, -greatest}},
		{minusInf, []float64{0, minusInf, minusZero}},
		{nan, []float64{inf, minusInf}},
		{nan, []float64{minusInf, inf}},
		{nan, []float64{inf, 1, minusInf, 1}},
		{nan, []float64{minusInf, inf, inf}},
		{minusInf, []float64{minusInf, 1e308, 1e308}},
		{inf, []float64{inf, -1e308, -1e308}},
	} {
		checkSum(t, c.l, c.want)
	}
}

func TestP4_1SumPastTheGreatest(t *testing.T) {
	for _, c := range []struct {
		want float64
		l    []float64
	}{
		{inf, []float64{1e308, 1e308, -1e308}}, // the correction is a NaN: the sum alone is the result
		{minusInf, []float64{-1e308, -1e308, 1e308}},
		{inf, []float64{greatest, greatest, greatest}},
		{nan, []float64{1e308, 1e308}}, // the correction is -Inf, which is no NaN: Inf + -Inf is the result
		{nan, []float64{-greatest, -greatest}},
		{nan, []float64{1, 1e308, 1e308}},
		{greatest, []float64{greatest, 0x1p969}},
		{inf, []float64{greatest, 0x1p969, 0x1p969}}, // only the last addition passes it
		{minusInf, []float64{-greatest, -0x1p969, -0x1p969}},
		{greatest, []float64{greatest, -greatest, greatest}},
		{1e308, []float64{1e308, -1e308, 1e308}},
	} {
		checkSum(t, c.l, c.want)
	}
}

func TestP4_1SumOfNaNs(t *testing.T) {
	for _, b := range append([]uint64{nanBits}, otherNaNs...) {
		x := math.Float64frombits(b)
		checkSum(t, []float64{x}, nan)
		checkSum(t, []float64{x, x}, nan)
		for at := range 4 {
			for _, others := range []float64{minusZero, 0, 1, greatest, inf, minusInf} {
				l := repeated(others, 4)
				l[at] = x
				checkSum(t, l, nan)
			}
		}
	}
}

func TestP4_1SumOfShortLists(t *testing.T) {
	shortLists(few(), 4, func(l []float64) {
		checkSum(t, l, sumByWords(l))
	})
}

func TestP4_1SumOfManyLists(t *testing.T) {
	manyLists(func(l []float64) {
		checkSum(t, l, sumByWords(l))
	})
	for seed := range 5 {
		l := mixed(seed, 3000, -40, 40)
		checkSum(t, l, sumByWords(l))
	}
}

// TestP4_1SumIsClose asks more of the whole than its single steps: a sum without correction fails it.
func TestP4_1SumIsClose(t *testing.T) {
	for seed := range 40 {
		l := mixed(seed, 500, -30, 30)
		exact, size := new(big.Rat), new(big.Rat)
		for _, x := range l {
			exact.Add(exact, rat(x))
			size.Add(size, rat(math.Abs(x)))
		}
		off := new(big.Rat).Sub(rat(Sum(l...)), exact)
		allowed := new(big.Rat).Mul(new(big.Rat).Abs(exact), rat(0x1p-52))
		allowed.Add(allowed, size.Mul(size, rat(500*500*0x1p-104)))
		if off.Abs(off).Cmp(allowed) > 0 {
			t.Errorf("list %d: the sum is off by %v", seed, off.FloatString(30))
		}
	}
}

func TestP4_2MeanAndSpreadOfNone(t *testing.T) {
	x, code := Mean()
	checkRefused(t, "Mean of none", x, code, api.ErrNone)
	x, code = Mean([]float64{}...)
	checkRefused(t, "Mean of an empty list", x, code, api.ErrNone)
	x, code = Spread()
	checkRefused(t, "Spread of none", x, code, api.ErrNone)
	x, code = Spread([]float64{}...)
	checkRefused(t, "Spread of an empty list", x, code, api.ErrNone)
}

func TestP4_2MeanKnown(t *testing.T) {
	for _, c := range []struct {
		want float64
		l    []float64
	}{
		{3, []float64{1, 2, 4, 5}}, // the chapter's example
		{5, []float64{5}},
		{1.5, []float64{1, 2}},
		{4.0 / 3, []float64{1, 1, 2}},
		{0.1, repeated(0.1, 10)},
		{0.5, []float64{1, 1e100, 1, -1e100}},
		{minusZero, []float64{minusZero}},
		{minusZero, []float64{minusZero, minusZero, minusZero}},
		{0, []float64{0, minusZero}},
		{0, []float64{-1, 1}},
		{least, []float64{least}},
		{0, []float64{least, 0}}, // half of the smallest one is rounded to even
		{minusZero, []float64{-least, 0}},
		{least, []float64{least, least, 0}},
		{greatest, []float64{greatest}},
		{inf, []float64{inf}},
		{minusInf, []float64{minusInf, 1, 2}},
		{nan, []float64{inf, minusInf}},
		{inf, []float64{1e308, 1e308, -1e308}},
		{nan, []float64{1e308, 1e308}}, // its Sum is the NaN
		{nan, []float64{1, otherNaN}},
	} {
		checkMean(t, c.l, c.want)
	}
}

func TestP4_2SpreadKnown(t *testing.T) {
	for _, c := range []struct {
		want float64
		l    []float64
	}{
		{1.25, []float64{1, 2, 3, 4}}, // the chapter's example
		{0, []float64{5}},
		{0, []float64{-5, -5, -5}},
		{0, []float64{minusZero}},
		{0, []float64{minusZero, 0}},
		{1, []float64{-1, 1}},
		{2.0 / 3, []float64{1, 2, 3}},
		{0, []float64{least}},
		{0, []float64{1e-200, -1e-200}}, // the squares are too small
		{inf, []float64{1e200, -1e200}}, // and too great
		{0, []float64{greatest}},
		{nan, []float64{inf}},
		{nan, []float64{minusInf, 1}},
		{nan, []float64{inf, minusInf}},
		{inf, []float64{1e308, 1e308, -1e308}}, // each is -Inf from the mean
		{nan, []float64{otherNaN}},
		{nan, []float64{1, nan, 2}},
	} {
		checkSpread(t, c.l, c.want)
	}
}

func TestP4_2MeanAndSpreadOfShortLists(t *testing.T) {
	shortLists(few(), 4, func(l []float64) {
		if len(l) > 0 {
			checkMean(t, l, meanByWords(l))
			checkSpread(t, l, spreadByWords(l))
		}
	})
}

func TestP4_2MeanAndSpreadOfManyLists(t *testing.T) {
	manyLists(func(l []float64) {
		checkMean(t, l, meanByWords(l))
		checkSpread(t, l, spreadByWords(l))
	})
}

func TestP4_2DotOfOtherLengths(t *testing.T) {
	for a := range 5 {
		for b := range 5 {
			x, code := Dot(repeated(1, a), repeated(2, b))
			if a != b {
				checkRefused(t, "Dot", x, code, api.ErrArg)
			} else if code != api.OK || x != float64(2*a) {
				t.Errorf("Dot of %d numbers = %v, %d", a, x, code)
			}
		}
	}
	x, code := Dot(nil, []float64{nan})
	checkRefused(t, "Dot", x, code, api.ErrArg)
	x, code = Dot([]float64{inf}, nil)
	checkRefused(t, "Dot", x, code, api.ErrArg)
}

func TestP4_2DotKnown(t *testing.T) {
	near := 1 + 0x1p-27 // its square is 1 + 2^-26 + 2^-54, which is rounded
	for _, c := range []struct {
		want float64
		a, b []float64
	}{
		{32, []float64{1, 2, 3}, []float64{4, 5, 6}}, // the chapter's example
		{0, nil, nil},
		{0, []float64{}, nil},
		{minusZero, []float64{minusZero}, []float64{1}},
		{minusZero, []float64{minusZero, 0}, []float64{1, -2}},
		{0, []float64{minusZero, 0}, []float64{1, 2}},
		{0, []float64{minusZero}, []float64{-1}},
		{0, []float64{near, 1}, []float64{near, -1 - 0x1p-26}},
		{0, []float64{1, near}, []float64{-1 - 0x1p-26, near}},
		{1, []float64{1e200, 1, 1e100}, []float64{1, 1, -1e100}},
		{inf, []float64{1e200, 1}, []float64{1e200, 1}},
		{minusInf, []float64{1e200, 1}, []float64{-1e200, 1}},
		{nan, []float64{1e200, 1e200}, []float64{1e200, -1e200}},
		{inf, []float64{inf, 1}, []float64{2, 3}},
		{nan, []float64{0}, []float64{inf}},
		{nan, []float64{inf}, []float64{minusZero}},
		{nan, []float64{1, otherNaN}, []float64{1, 1}},
		{0, []float64{least}, []float64{0.5}},
		{minusZero, []float64{-least}, []float64{0.5}},
		{least, []float64{least}, []float64{0.75}},
	} {
		checkDot(t, c.a, c.b, c.want)
	}
}

func TestP4_2DotOfShortLists(t *testing.T) {
	shortLists(few(), 2, func(a []float64) {
		shortLists(few(), 2, func(b []float64) {
			if len(a) == len(b) {
				checkDot(t, a, b, dotByWords(a, b))
			}
		})
	})
}

func TestP4_2DotOfManyLists(t *testing.T) {
	manyLists(func(a []float64) {
		manyLists(func(b []float64) {
			if len(a) == len(b) && len(a) < 4 {
				checkDot(t, a, b, dotByWords(a, b))
			}
		})
		checkDot(t, a, a, dotByWords(a, a))
	})
}

func TestP4_3QuantileRefuses(t *testing.T) {
	for _, q := range []float64{0, 0.5, 1, minusZero, -0.1, 1.1, nan, otherNaN, inf, minusInf} {
		x, code := Quantile(nil, q)
		checkRefused(t, "Quantile of none", x, code, api.ErrNone)
		x, code = Quantile([]float64{}, q)
		checkRefused(t, "Quantile of an empty list", x, code, api.ErrNone)
	}
	wrong := []float64{nan, inf, minusInf, -least, -0.1, 1 + 0x1p-52, 1.1, 2, -1, greatest, -greatest}
	for _, b := range otherNaNs {
		wrong = append(wrong, math.Float64frombits(b))
	}
	for _, q := range wrong {
		for _, l := range [][]float64{{1}, {3, 1, 2}, {nan}, {1, otherNaN}, {inf, minusInf}} {
			x, code := Quantile(l, q)
			checkRefused(t, "Quantile", x, code, api.ErrArg)
		}
	}
}

func TestP4_3QuantileKnown(t *testing.T) {
	eleven := []float64{10, 9, 8, 7, 6, 5, 4, 3, 2, 1, 0}
	for _, c := range []struct {
		want, q float64
		l       []float64
	}{
		{1.25, 0.25, []float64{1, 2}}, // the chapter's example
		{1.25, 0.25, []float64{2, 1}},
		{1, 0, []float64{3, 1, 2}},
		{3, 1, []float64{3, 1, 2}},
		{2, 0.5, []float64{3, 1, 2}},
		{2.5, 0.5, []float64{4, 3, 2, 1}},
		{5, minusZero, []float64{6, 5}},
		{7, 0, []float64{7}},
		{7, 0.3, []float64{7}},
		{7, 1, []float64{7}},
		{1, 0.1, eleven}, // 0.1 is a little more than a tenth, 0.3 a little less than three: the product is rounded
		{3, 0.3, eleven},
		{9, 0.9, eleven},
		{5, 0.5, eleven},
		{2.5, 0.25, eleven},
		{7, 0.7, eleven},
		{4, 0.5, []float64{4, 4, 4, 4}},
		{4, 0.4, []float64{9, 4, 4, 1}},
		{minusZero, 0, []float64{0, minusZero}},
		{0, 1, []float64{0, minusZero}},
		{0, 0.5, []float64{0, minusZero}}, // -0 + 0.5 times 0
		{minusZero, 0.5, []float64{minusZero, minusZero}},
		{0, 0.5, []float64{1, -1}},
		{least, 0.75, []float64{0, least}},
		{0, 0.5, []float64{0, least}},
		{minusInf, 0.5, []float64{inf, minusInf}},
		{minusInf, 0.5, []float64{minusInf, 1}},
		{inf, 0.9, []float64{1, inf}},
		{inf, 0x1p-1074, []float64{1, inf}},
		{inf, 0.5, []float64{inf, inf}},
		{minusInf, 0.5, []float64{minusInf, minusInf}},
		{1, 0.5, []float64{inf, 1, minusInf}},
		{minusInf, 0, []float64{inf, 1, minusInf}},
		{inf, 1, []float64{inf, 1, minusInf}},
		{inf, 0.3, []float64{-1e308, 1e308}}, // their difference is past the greatest one
		{-1e308, 0, []float64{-1e308, 1e308}},
		{1e308, 1, []float64{-1e308, 1e308}},
		{nan, 0.5, []float64{nan}},
		{nan, 0, []float64{2, otherNaN, 1}},
		{nan, 1, []float64{otherNaN, 1, 2, inf}},
	} {
		checkQuantile(t, c.l, c.q, c.want)
	}
}

// someQs are the ends, those beside them, and others between.
func someQs() []float64 {
	return []float64{0, minusZero, least, 0x1p-60, 0.1, 0.25, 0.3, 1.0 / 3, 0.5, 2.0 / 3, 0.7, 0.75, 0.9, 1 - 0x1p-53, 1}
}

func TestP4_3QuantileOfShortLists(t *testing.T) {
	shortLists(few(), 3, func(l []float64) {
		if len(l) == 0 {
			return
		}
		for _, q := range someQs() {
			checkQuantile(t, l, q, quantileByWords(l, q))
		}
	})
}

func TestP4_3QuantileOfManyLists(t *testing.T) {
	manyLists(func(l []float64) {
		for _, q := range someQs() {
			checkQuantile(t, l, q, quantileByWords(l, q))
		}
	})
}

func TestP4_3QuantileAtEveryElement(t *testing.T) {
	for size := 2; size <= 65; size++ {
		l := mixed(size, size, -1074, 1000)
		sorted := slices.Clone(l)
		slices.SortFunc(sorted, order)
		for i, x := range sorted {
			q := float64(i) / float64(size-1)
			if k := times(q, float64(size-1)); k != float64(i) {
				x = quantileByWords(l, q)
			}
			checkQuantile(t, l, q, x)
		}
	}
}

// spare are numbers of every kind and some behind them that no call may touch.
func spare() (all, l []float64) {
	all = []float64{3, otherNaN, minusZero, 1, inf, 0, -2, minusInf, 9, 8, otherNaN, 7}
	return all, all[:8]
}

func TestP4_4ArgumentsStay(t *testing.T) {
	for _, b := range otherNaNs {
		all, l := spare()
		all[1] = math.Float64frombits(b)
		other, m := spare()
		before, otherBefore := patterns(all), patterns(other)
		Sum(l...)
		Mean(l...)
		Spread(l...)
		Quantile(l, 0.3)
		Quantile(l[2:8], 0.3) // without a NaN
		Quantile(l, 7)
		Dot(l, m)
		Dot(l, l)
		Dot(l, m[1:])
		if !slices.Equal(patterns(all), before) || !slices.Equal(patterns(other), otherBefore) {
			t.Fatalf("the arguments were turned to %v and %v", all, other)
		}
	}
}

func TestP4_4ArgumentsAreNotKept(t *testing.T) {
	l := []float64{4, 1, 3, 2}
	ask := func() []float64 {
		mean, _ := Mean(l...)
		spread, _ := Spread(l...)
		half, _ := Quantile(l, 0.5)
		dot, _ := Dot(l, l)
		return []float64{Sum(l...), mean, spread, half, dot}
	}
	first := ask()
	for i := range l {
		l[i] = 7
	}
	second := ask()
	if want := []float64{10, 2.5, 1.25, 2.5, 30}; !slices.Equal(first, want) {
		t.Errorf("at first %v, want %v", first, want)
	}
	if want := []float64{28, 7, 0, 7, 196}; !slices.Equal(second, want) {
		t.Errorf("of other numbers in the same list %v, want %v", second, want)
	}
}
