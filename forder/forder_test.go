package forder

import (
	"math"
	"slices"
	"testing"

	"scarp/api"
)

// nanBits is the NaN's pattern, written out so that a slip in a package's constants can't hide.
const nanBits = 0x7ff8000000000000

// ranked are patterns of numbers in the order that the chapter asks for, no two of them the same.
var ranked = []uint64{
	0xfff0000000000000, // -Inf
	0xffefffffffffffff, // the smallest finite one
	0xc000000000000000, // -2
	0xbff0000000000000, // -1
	0x8010000000000000, // the greatest negative normal one
	0x800fffffffffffff, // the smallest negative subnormal one
	0x8000000000000002,
	0x8000000000000001, // the greatest negative subnormal one
	0x8000000000000000, // -0
	0x0000000000000000, // 0
	0x0000000000000001, // the smallest positive subnormal one
	0x0000000000000002,
	0x000fffffffffffff, // the greatest positive subnormal one
	0x0010000000000000, // the smallest positive normal one
	0x3ff0000000000000, // 1
	0x4000000000000000, // 2
	0x7fefffffffffffff, // the greatest finite one
	0x7ff0000000000000, // Inf
	nanBits,
}

// otherNaNs are patterns of NaNs that are not the NaN: signalling and quiet, of both signs.
var otherNaNs = []uint64{
	0x7ff0000000000001,
	0x7ff7ffffffffffff,
	0x7ff8000000000001, // math.NaN's
	0x7fffffffffffffff,
	0xfff0000000000001,
	0xfff8000000000000,
	0xffffffffffffffff,
}

var (
	inf       = math.Inf(1)
	minusInf  = math.Inf(-1)
	minusZero = math.Copysign(0, -1)
	nan       = math.Float64frombits(nanBits)
	otherNaN  = math.Float64frombits(0xfff0000000000001)
)

// few are enough numbers to build every short list of: the order's ends, both zeros, two NaNs.
func few() []float64 {
	return []float64{minusInf, -1, minusZero, 0, 1, nan, otherNaN}
}

// all are the ranked numbers and the other NaNs behind them.
func all() []float64 {
	return numbers(slices.Concat(ranked, otherNaNs))
}

func numbers(patterns []uint64) []float64 {
	out := make([]float64, len(patterns))
	for i, b := range patterns {
		out[i] = math.Float64frombits(b)
	}
	return out
}

// patterns looks at numbers without the program, so that zeros and NaNs are told apart.
func patterns(l []float64) []uint64 {
	out := make([]uint64, len(l))
	for i, x := range l {
		out[i] = math.Float64bits(x)
	}
	return out
}

// order compares by values, apart from the zeros and NaN: the program does so by keys.
func order(a, b float64) int {
	switch {
	case math.IsNaN(a) && math.IsNaN(b):
		return 0
	case math.IsNaN(a):
		return 1
	case math.IsNaN(b):
		return -1
	case a < b:
		return -1
	case a > b:
		return 1
	case a != 0 || math.Signbit(a) == math.Signbit(b):
		return 0
	case math.Signbit(a):
		return -1
	}
	return 1
}

// inOrder are the patterns of the numbers of l as Sort is to return them.
func inOrder(l []float64) []uint64 {
	sorted := slices.Clone(l)
	slices.SortFunc(sorted, order)
	out := patterns(sorted)
	for i, x := range sorted {
		if math.IsNaN(x) {
			out[i] = nanBits
		}
	}
	return out
}

// shortLists calls f with every list of at most size numbers of from.
func shortLists(from []float64, size int, f func(l []float64)) {
	var grow func(l []float64)
	grow = func(l []float64) {
		f(l)
		if len(l) == size {
			return
		}
		for _, x := range from {
			grow(append(slices.Clone(l), x))
		}
	}
	grow(nil)
}

// mixed are size numbers of every kind, the same ones at each run.
func mixed(size int) []float64 {
	out := make([]float64, size)
	edges := all()
	state := uint64(size)
	for i := range out {
		state = state*6364136223846793005 + 1442695040888963407
		if pick := state >> 40; pick%4 == 0 {
			out[i] = edges[pick/4%uint64(len(edges))]
		} else {
			out[i] = math.Float64frombits(state ^ state>>29)
		}
	}
	return out
}

func checkSort(t *testing.T, l []float64) {
	t.Helper()
	if got, want := patterns(Sort(l)), inOrder(l); !slices.Equal(got, want) {
		t.Errorf("Sort of %d numbers, %x ..: got %x .., want %x ..", len(l), head(patterns(l)), head(got), head(want))
	}
}

func head(l []uint64) []uint64 {
	return l[:min(len(l), 8)]
}

func TestP2_1CompareOfRanked(t *testing.T) {
	l := numbers(ranked)
	for i, a := range l {
		for k, b := range l {
			want := 0
			if i < k {
				want = -1
			} else if i > k {
				want = 1
			}
			if got := Compare(a, b); got != want {
				t.Errorf("Compare(%x, %x) is %d, want %d", ranked[i], ranked[k], got, want)
			}
		}
	}
}

func TestP2_1CompareOfOtherNaNs(t *testing.T) {
	others := numbers(otherNaNs)
	for i, a := range others {
		for _, b := range append(others, nan) {
			if Compare(a, b) != 0 || Compare(b, a) != 0 {
				t.Errorf("NaN %x is not at the place of NaN %x", otherNaNs[i], math.Float64bits(b))
			}
		}
		for _, b := range numbers(ranked[:len(ranked)-1]) {
			if Compare(a, b) != 1 || Compare(b, a) != -1 {
				t.Errorf("NaN %x does not come after %v", otherNaNs[i], b)
			}
		}
	}
}

func TestP2_1CompareOfMixed(t *testing.T) {
	l := mixed(400)
	for _, a := range l {
		for _, b := range l {
			if got, want := Compare(a, b), order(a, b); got != want {
				t.Errorf("Compare(%v, %v) is %d, want %d", a, b, got, want)
			}
		}
	}
}

func TestP2_1SortExample(t *testing.T) {
	got := patterns(Sort([]float64{nan, 0, minusZero, minusInf}))
	want := []uint64{0xfff0000000000000, 0x8000000000000000, 0, nanBits}
	if !slices.Equal(got, want) {
		t.Errorf("got %x, want %x", got, want)
	}
}

func TestP2_1SortShortLists(t *testing.T) {
	shortLists(few(), 5, func(l []float64) { checkSort(t, l) })
}

func TestP2_1SortOfNone(t *testing.T) {
	if got := Sort(nil); len(got) != 0 {
		t.Errorf("Sort(nil) is %v", got)
	}
	if got := Sort([]float64{}); len(got) != 0 {
		t.Errorf("Sort of no numbers is %v", got)
	}
}

func TestP2_1SortOfOne(t *testing.T) {
	for _, x := range all() {
		checkSort(t, []float64{x})
	}
}

func TestP2_1SortOfEdges(t *testing.T) {
	l := all()
	checkSort(t, l)
	slices.Reverse(l)
	checkSort(t, l)
}

// Lengths beside the powers of two leave a short last run, or a run with nothing beside it.
func TestP2_1SortOfEveryLength(t *testing.T) {
	for size := range 140 {
		l := mixed(size)
		checkSort(t, l)
		up := Sort(l)
		checkSort(t, up)
		slices.Reverse(up)
		checkSort(t, up)
		checkSort(t, slices.Repeat([]float64{minusZero}, size))
		checkSort(t, slices.Repeat([]float64{otherNaN}, size))
		checkSort(t, slices.Repeat([]float64{1, 0, minusZero}, size))
	}
}

func TestP2_1SortOfMany(t *testing.T) {
	l := mixed(200_003)
	checkSort(t, l)
	up := Sort(l)
	checkSort(t, up)
	slices.Reverse(up)
	checkSort(t, up)
	checkSort(t, make([]float64, 200_003))
}

func TestP2_2MinAndMaxOfNone(t *testing.T) {
	if x, code := Min(); math.Float64bits(x) != 0 || code != api.ErrNone {
		t.Errorf("Min() is %v, %d", x, code)
	}
	if x, code := Max(); math.Float64bits(x) != 0 || code != api.ErrNone {
		t.Errorf("Max() is %v, %d", x, code)
	}
	if x, code := Min([]float64{}...); math.Float64bits(x) != 0 || code != api.ErrNone {
		t.Errorf("Min of an empty list is %v, %d", x, code)
	}
	if x, code := Max([]float64{}...); math.Float64bits(x) != 0 || code != api.ErrNone {
		t.Errorf("Max of an empty list is %v, %d", x, code)
	}
}

// checkEnds checks Min and Max of a list that is not empty.
func checkEnds(t *testing.T, l []float64) {
	t.Helper()
	sorted := inOrder(l)
	least, greatest := sorted[0], sorted[len(sorted)-1]
	if greatest == nanBits {
		least = nanBits
	}
	if x, code := Min(l...); math.Float64bits(x) != least || code != api.OK {
		t.Errorf("Min of %v is %x, %d, want %x", l, math.Float64bits(x), code, least)
	}
	if x, code := Max(l...); math.Float64bits(x) != greatest || code != api.OK {
		t.Errorf("Max of %v is %x, %d, want %x", l, math.Float64bits(x), code, greatest)
	}
}

func TestP2_2MinAndMaxExamples(t *testing.T) {
	if x, code := Min(1, nan, -1); math.Float64bits(x) != nanBits || code != api.OK {
		t.Errorf("Min(1, NaN, -1) is %v, %d", x, code)
	}
	if x, code := Max(minusZero, 0); math.Float64bits(x) != 0 || code != api.OK {
		t.Errorf("Max(-0, 0) is %v, %d", x, code)
	}
	if x, code := Min(0, minusZero); math.Float64bits(x) != 1<<63 || code != api.OK {
		t.Errorf("Min(0, -0) is %v, %d", x, code)
	}
}

func TestP2_2MinAndMaxOfShortLists(t *testing.T) {
	shortLists(few(), 5, func(l []float64) {
		if len(l) > 0 {
			checkEnds(t, l)
		}
	})
}

func TestP2_2MinAndMaxOfEdges(t *testing.T) {
	for _, a := range all() {
		checkEnds(t, []float64{a})
		for _, b := range all() {
			checkEnds(t, []float64{a, b})
		}
	}
}

func TestP2_2NaNAtEveryPlace(t *testing.T) {
	for _, b := range append(otherNaNs, nanBits) {
		for at := range 6 {
			l := []float64{3, minusInf, inf, -7, 0}
			l = slices.Insert(l, at, math.Float64frombits(b))
			checkEnds(t, l)
		}
	}
}

func TestP2_2MinAndMaxOfMany(t *testing.T) {
	l := mixed(3000)
	l = slices.DeleteFunc(l, math.IsNaN)
	checkEnds(t, l)
	checkEnds(t, l[:1000])
	checkEnds(t, l[1000:])
}

// place is what Find is to return, found by going through the list.
func place(l []float64, x float64) (int, bool) {
	if !slices.IsSortedFunc(l, order) {
		return 0, false
	}
	for i, y := range l {
		if c := order(y, x); c >= 0 {
			return i, c == 0
		}
	}
	return len(l), false
}

func checkFind(t *testing.T, l []float64, x float64) {
	t.Helper()
	at, ok := Find(l, x)
	if wantAt, wantOK := place(l, x); at != wantAt || ok != wantOK {
		t.Errorf("Find of %v in %v is %d, %v, want %d, %v", x, l, at, ok, wantAt, wantOK)
	}
}

func TestP2_3FindExample(t *testing.T) {
	if at, ok := Find([]float64{-1, minusZero, 0, 0, nan}, 0); at != 2 || !ok {
		t.Errorf("got %d, %v, want 2, true", at, ok)
	}
}

func TestP2_3FindInNone(t *testing.T) {
	for _, x := range all() {
		if at, ok := Find(nil, x); at != 0 || ok {
			t.Errorf("Find of %v in no numbers is %d, %v", x, at, ok)
		}
		if at, ok := Find([]float64{}, x); at != 0 || ok {
			t.Errorf("Find of %v in an empty list is %d, %v", x, at, ok)
		}
	}
}

// Among all the short lists are those that are sorted and those that are not.
func TestP2_3FindInShortLists(t *testing.T) {
	sought := append(few(), -2, -0.5, 0.5, 2, inf, math.SmallestNonzeroFloat64)
	shortLists(few(), 4, func(l []float64) {
		for _, x := range sought {
			checkFind(t, l, x)
		}
	})
}

func TestP2_3FindOnOneSideOfAll(t *testing.T) {
	l := []float64{-1, 0, 1}
	if at, ok := Find(l, minusInf); at != 0 || ok {
		t.Errorf("Find of -Inf is %d, %v, want 0, false", at, ok)
	}
	if at, ok := Find(l, nan); at != 3 || ok {
		t.Errorf("Find of the NaN is %d, %v, want 3, false", at, ok)
	}
}

func TestP2_3FindTheFirstOfTheSame(t *testing.T) {
	for _, x := range all() {
		for size := 1; size < 40; size++ {
			l := slices.Repeat([]float64{x}, size)
			if at, ok := Find(l, x); at != 0 || !ok {
				t.Errorf("Find of %v in %d of it is %d, %v", x, size, at, ok)
			}
		}
	}
	l := []float64{-1, otherNaN, nan, otherNaN}
	if at, ok := Find(l, nan); at != 1 || !ok {
		t.Errorf("Find of the NaN is %d, %v, want 1, true", at, ok)
	}
}

// Wherever two numbers stand the wrong way round, beside what is sought or far from it, nothing is found.
func TestP2_3FindInUnsorted(t *testing.T) {
	for at := range 20 {
		l := make([]float64, 21)
		for i := range l {
			l[i] = float64(i)
		}
		l[at], l[at+1] = l[at+1], l[at]
		for _, x := range append(l, -1, 100, nan) {
			if i, ok := Find(l, x); i != 0 || ok {
				t.Errorf("Find of %v in %v is %d, %v, want 0, false", x, l, i, ok)
			}
		}
	}
	for _, l := range [][]float64{{0, minusZero}, {nan, 1}, {otherNaN, inf}, {1, 0}, {0, minusInf}} {
		for _, x := range append(all(), l...) {
			if i, ok := Find(l, x); i != 0 || ok {
				t.Errorf("Find of %v in %v is %d, %v, want 0, false", x, l, i, ok)
			}
		}
	}
}

func TestP2_3FindInMany(t *testing.T) {
	l := inOrder(mixed(500))
	sorted := numbers(l)
	for _, x := range append(mixed(300), sorted...) {
		checkFind(t, sorted, x)
	}
}

// clamped is the pattern that Clamp is to return.
func clamped(x, low, high float64) uint64 {
	switch {
	case math.IsNaN(x) || math.IsNaN(low) || math.IsNaN(high) || order(low, high) > 0:
		return nanBits
	case order(x, low) < 0:
		return math.Float64bits(low)
	case order(x, high) > 0:
		return math.Float64bits(high)
	}
	return math.Float64bits(x)
}

func TestP2_4ClampKnown(t *testing.T) {
	known := []struct {
		what         string
		x, low, high float64
		want         float64
	}{
		{"within", 1, 0, 2, 1},
		{"at low", 0, 0, 2, 0},
		{"at high", 2, 0, 2, 2},
		{"below", -1, 0, 2, 0},
		{"above", 3, 0, 2, 2},
		{"the chapter's example", minusZero, 0, 2, 0},
		{"0 above -0", 0, -1, minusZero, minusZero},
		{"between the zeros", 1, minusZero, 0, 0},
		{"all the same", 4, 4, 4, 4},
		{"between the infinities", inf, minusInf, inf, inf},
		{"Inf", inf, -1, 1, 1},
		{"-Inf", minusInf, -1, 1, -1},
		{"low behind high", 1, 2, 0, nan},
		{"low behind high, by a zero's sign", 0, 0, minusZero, nan},
		{"x is NaN", otherNaN, 0, 1, nan},
		{"low is NaN", 0, otherNaN, 1, nan},
		{"high is NaN", 0, 0, otherNaN, nan},
		{"high is the NaN, which comes after all", 5, 0, nan, nan},
	}
	for _, k := range known {
		if got := Clamp(k.x, k.low, k.high); math.Float64bits(got) != math.Float64bits(k.want) {
			t.Errorf("%s: Clamp(%v, %v, %v) is %v, want %v", k.what, k.x, k.low, k.high, got, k.want)
		}
	}
}

func TestP2_4ClampOfEdges(t *testing.T) {
	l := all()
	for _, x := range l {
		for _, low := range l {
			for _, high := range l {
				if got, want := math.Float64bits(Clamp(x, low, high)), clamped(x, low, high); got != want {
					t.Errorf("Clamp(%v, %v, %v) is %x, want %x", x, low, high, got, want)
				}
			}
		}
	}
}

func TestP2_5CompareIsATotalOrder(t *testing.T) {
	l := append(all(), mixed(60)...)
	for _, a := range l {
		for _, b := range l {
			if Compare(a, b) != -Compare(b, a) {
				t.Errorf("Compare of %v and %v is not the other way round for the other way round", a, b)
			}
			for _, c := range l {
				if Compare(a, b) <= 0 && Compare(b, c) <= 0 && Compare(a, c) > 0 {
					t.Errorf("%v, %v, %v: the first comes after the last", a, b, c)
				}
			}
		}
	}
}

func TestP2_5SortedNumbersAreFound(t *testing.T) {
	for _, l := range [][]float64{all(), mixed(1), mixed(2), mixed(3), mixed(700)} {
		sorted := Sort(l)
		for _, x := range l {
			if at, ok := Find(sorted, x); !ok || order(sorted[at], x) != 0 {
				t.Errorf("Find of %v among %d sorted numbers is %d, %v", x, len(sorted), at, ok)
			}
		}
	}
}

// Behind the list handed in stands more of its memory, which is not to be touched either.
func TestP2_5ArgumentsStay(t *testing.T) {
	for size := range 40 {
		for _, room := range [][]float64{mixed(size + 5), Sort(mixed(size + 5))} {
			was := patterns(room)
			l := room[:size]
			Sort(l)
			Min(l...)
			Max(l...)
			Find(l, 1)
			Find(l, nan)
			if !slices.Equal(patterns(room), was) {
				t.Errorf("a list of %d numbers was turned", size)
			}
		}
	}
}

func TestP2_5SortAnswersNewMemory(t *testing.T) {
	for size := range 40 {
		for _, l := range [][]float64{mixed(size), Sort(mixed(size)), make([]float64, size)} {
			room := append(l, 1, 2, 3)
			was, want := patterns(room), inOrder(l)
			first, second := Sort(room[:size]), Sort(room[:size])
			fill(first)
			if !slices.Equal(patterns(room), was) || !slices.Equal(patterns(second), want) {
				t.Errorf("Sort of %d numbers answers memory that is not its own", size)
			}
			fill(room)
			if !slices.Equal(patterns(second), want) || !slices.Equal(patterns(Sort(l)), inOrder(l)) {
				t.Errorf("Sort of %d numbers keeps its argument", size)
			}
		}
	}
}

// fill writes on all the memory of a list, behind its end too.
func fill(l []float64) {
	l = l[:cap(l)]
	for i := range l {
		l[i] = 12345
	}
}
