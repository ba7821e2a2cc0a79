package ival

import (
	"fmt"
	"math"
	"slices"
	"testing"

	"scarp/api"
)

// The chapter's numbers, of their own.
const (
	last   = 1 << 20 // the last block that there may be
	errArg = api.Errno(1)
	errBig = api.Errno(7)
)

// dice answers numbers, the same ones at each run.
func dice(seed uint64) func(n int) int {
	state := seed
	return func(n int) int {
		state = state*6364136223846793005 + 1442695040888963407
		return int((state >> 33) % uint64(n))
	}
}

func x(first, n int) api.Extent { return api.Extent{First: first, Len: n} }

func list(l ...api.Extent) []api.Extent { return l }

// of makes a set with room enough.
func of(t *testing.T, l ...api.Extent) *Set {
	t.Helper()
	s := New(len(l))
	checkAdd(t, s, api.OK, l...)
	return s
}

func checkAdd(t *testing.T, s *Set, want api.Errno, l ...api.Extent) {
	t.Helper()
	if code := s.Add(l...); code != want {
		t.Fatalf("Add(%v) = %d, want %d, with %v", l, code, want, s.Extents())
	}
}

// checkSet holds all of a set's extents and their number of blocks to what should be.
func checkSet(t *testing.T, s *Set, want ...api.Extent) {
	t.Helper()
	if got := s.Extents(); !slices.Equal(got, want) {
		t.Fatalf("Extents = %v, want %v", got, want)
	}
	n := 0
	for _, e := range want {
		n += e.Len
	}
	if got := s.Count(); got != n {
		t.Fatalf("Count of %v = %d, want %d", want, got, n)
	}
}

func checkHas(t *testing.T, s *Set, want bool, blocks ...int) {
	t.Helper()
	for _, lba := range blocks {
		if got := s.Has(lba); got != want {
			t.Errorf("Has(%d) = %v, want %v, with %v", lba, got, want, s.Extents())
		}
	}
}

func checkMeets(t *testing.T, s *Set, want bool, l ...api.Extent) {
	t.Helper()
	for _, e := range l {
		if got := s.Meets(e); got != want {
			t.Errorf("Meets(%v) = %v, want %v, with %v", e, got, want, s.Extents())
		}
	}
}

// checkCrosses holds both ways round to what should be.
func checkCrosses(t *testing.T, s, o *Set, want bool) {
	t.Helper()
	if got := s.Crosses(o); got != want {
		t.Errorf("%v Crosses %v = %v, want %v", s.Extents(), o.Extents(), got, want)
	}
	if got := o.Crosses(s); got != want {
		t.Errorf("%v Crosses %v = %v, want %v", o.Extents(), s.Extents(), got, want)
	}
}

func checkCut(t *testing.T, e api.Extent, off []api.Extent, want ...api.Extent) {
	t.Helper()
	if got := Cut(e, off); !slices.Equal(got, want) {
		t.Errorf("Cut(%v, %v) = %v, want %v", e, off, got, want)
	}
}

// wrong is extents that are not valid.
func wrong() []api.Extent {
	return list(
		x(0, 0), x(5, 0), x(last, 0), x(last+1, 0), x(0, -1), x(5, -1), x(5, -3), x(last, -1),
		x(-1, 1), x(-1, 2), x(-5, 10), x(-1, last), x(-last, last), x(-1, last+2),
		x(last+1, 1), x(last+2, 1), x(last+1, -1), x(1<<32, 1), x(1<<32+3, 1), x(1<<21, 5),
		x(0, last+1), x(0, last+2), x(1, last+1), x(0, 1<<32), x(0, 1<<32+1), x(-1, last+1),
		x(1, last+1), x(2, last), x(last, 2), x(last-1, 3), x(last/2+1, last/2+1), x(last/2+2, last/2), x(last, last),
		x(1<<62, 1<<62), x(math.MaxInt, math.MaxInt), x(math.MaxInt, 1), x(1, math.MaxInt), x(5, math.MaxInt-4),
		x(math.MinInt, math.MaxInt), x(math.MinInt, math.MinInt), x(math.MinInt, 1), x(1, math.MinInt), x(0, math.MinInt),
		x(math.MinInt+5, math.MinInt+5), x(-1<<62, -1<<62), x(last, math.MaxInt), x(math.MaxInt, last), x(math.MaxInt, math.MinInt),
	)
}

// valid is extents that are just so.
func valid() []api.Extent {
	return list(x(0, 1), x(0, last), x(1, last), x(1, 1), x(last, 1), x(last-1, 1), x(last-1, 2), x(last/2, last/2+1), x(last/2, last/2), x(last/2+1, last/2))
}

func TestP11_1Valid(t *testing.T) {
	for _, e := range valid() {
		if !Valid(e) {
			t.Errorf("Valid(%v) is false", e)
		}
	}
	for _, e := range wrong() {
		if Valid(e) {
			t.Errorf("Valid(%v) is true", e)
		}
	}
}

func TestP11_1New(t *testing.T) {
	for _, most := range []int{0, 1, 2, 3, 16, 64, 1000, 1 << 20, 1 << 40, math.MaxInt, -1, -2, -64, math.MinInt} {
		s := New(most)
		if s == nil {
			t.Fatalf("New(%d) is nil", most)
		}
		checkSet(t, s)
		checkHas(t, s, false, 0, 1, last)
		checkMeets(t, s, false, valid()...)
		checkCut(t, x(3, 2), s.Extents(), x(3, 2))
		checkAdd(t, s, api.OK)
		checkSet(t, s)
		if s == New(most) {
			t.Errorf("New(%d) is the same one twice", most)
		}
	}
}

// A set may have as many extents as New says, and not one more.
func TestP11_1NewMost(t *testing.T) {
	for most := -3; most <= 70; most++ {
		s := New(most)
		var want []api.Extent
		for k := range max(most, 0) {
			checkAdd(t, s, api.OK, x(3*k, 2))
			want = append(want, x(3*k, 2))
		}
		checkSet(t, s, want...)
		checkAdd(t, s, errBig, x(3*len(want), 2))
		checkAdd(t, s, errBig, x(last, 1))
		checkSet(t, s, want...)
	}
}

// row is extents that are added at once, and the set behind it.
type row struct {
	add  []api.Extent
	want []api.Extent
}

func TestP11_1Add(t *testing.T) {
	rows := []row{
		{nil, list(x(5, 3), x(10, 2))},
		{list(x(5, 3)), list(x(5, 3), x(10, 2))},
		{list(x(6, 1)), list(x(5, 3), x(10, 2))},
		{list(x(11, 1), x(5, 1), x(10, 2)), list(x(5, 3), x(10, 2))},
		{list(x(8, 1)), list(x(5, 4), x(10, 2))},
		{list(x(9, 1)), list(x(5, 3), x(9, 3))},
		{list(x(8, 2)), list(x(5, 7))},
		{list(x(4, 1)), list(x(4, 4), x(10, 2))},
		{list(x(3, 1)), list(x(3, 1), x(5, 3), x(10, 2))},
		{list(x(12, 1)), list(x(5, 3), x(10, 3))},
		{list(x(13, 1)), list(x(5, 3), x(10, 2), x(13, 1))},
		{list(x(2, 4)), list(x(2, 6), x(10, 2))},
		{list(x(7, 2)), list(x(5, 4), x(10, 2))},
		{list(x(7, 4)), list(x(5, 7))},
		{list(x(5, 5)), list(x(5, 7))},
		{list(x(6, 5)), list(x(5, 7))},
		{list(x(4, 9)), list(x(4, 9))},
		{list(x(0, 100)), list(x(0, 100))},
		{list(x(0, 5)), list(x(0, 8), x(10, 2))},
		{list(x(0, 4)), list(x(0, 4), x(5, 3), x(10, 2))},
		{list(x(12, last-11)), list(x(5, 3), x(10, last-9))},
		{list(x(13, last-12)), list(x(5, 3), x(10, 2), x(13, last-12))},
		{list(x(8, 1), x(9, 1)), list(x(5, 7))},
		{list(x(9, 1), x(8, 1)), list(x(5, 7))},
		{list(x(20, 1), x(20, 1), x(20, 1)), list(x(5, 3), x(10, 2), x(20, 1))},
		{list(x(20, 9), x(22, 3), x(20, 2), x(28, 1)), list(x(5, 3), x(10, 2), x(20, 9))},
		{list(x(20, 2), x(22, 2), x(18, 2), x(26, 1)), list(x(5, 3), x(10, 2), x(18, 6), x(26, 1))},
		{list(x(30, 1), x(0, 1), x(20, 1), x(2, 1)), list(x(0, 1), x(2, 1), x(5, 3), x(10, 2), x(20, 1), x(30, 1))},
		{list(x(30, 1), x(0, 1), x(8, 2)), list(x(0, 1), x(5, 7), x(30, 1))},
		{list(x(last, 1), x(0, 1)), list(x(0, 1), x(5, 3), x(10, 2), x(last, 1))},
	}
	for _, r := range rows {
		s := New(9)
		checkAdd(t, s, api.OK, x(10, 2), x(5, 3))
		checkAdd(t, s, api.OK, r.add...)
		checkSet(t, s, r.want...)
		checkAdd(t, s, api.OK, r.add...)
		checkSet(t, s, r.want...)
	}
}

func TestP11_1AddToNone(t *testing.T) {
	for _, e := range valid() {
		s := New(1)
		checkAdd(t, s, api.OK, e)
		checkSet(t, s, e)
		checkAdd(t, s, api.OK, e, e)
		checkSet(t, s, e)
		checkAdd(t, s, api.OK)
		checkSet(t, s, e)
	}
	rows := []row{
		{list(x(5, 2), x(8, 1), x(1, 1)), list(x(1, 1), x(5, 2), x(8, 1))},
		{list(x(5, 2), x(7, 1), x(1, 1)), list(x(1, 1), x(5, 3))},
		{list(x(0, last), x(last, 1)), list(x(0, last+1))},
		{list(x(1, last), x(0, 1)), list(x(0, last+1))},
		{list(x(1, last), x(0, last)), list(x(0, last+1))},
		{list(x(0, last-1), x(last, 1)), list(x(0, last-1), x(last, 1))},
		{list(x(0, 10), x(1, 1), x(3, 1), x(5, 5)), list(x(0, 10))},
		{list(x(5, 5), x(3, 1), x(1, 1), x(0, 10)), list(x(0, 10))},
		{list(x(3, 9), x(3, 1), x(3, 4)), list(x(3, 9))},
		{list(x(3, 1), x(3, 4), x(3, 9), x(13, 1)), list(x(3, 9), x(13, 1))},
	}
	for _, r := range rows {
		s := New(3)
		checkAdd(t, s, api.OK, r.add...)
		checkSet(t, s, r.want...)
	}
}

func TestP11_1AddExample(t *testing.T) {
	s := New(1)
	checkAdd(t, s, api.OK, x(5, 2), x(7, 1))
	checkSet(t, s, x(5, 3))
	s = New(1)
	checkAdd(t, s, api.OK, x(5, 2))
	checkAdd(t, s, api.OK, x(7, 1))
	checkSet(t, s, x(5, 3))
}

// One block between keeps two extents apart, at every place, and is the one that joins them.
func TestP11_1AddGap(t *testing.T) {
	for gap := range 30 {
		s := New(2)
		if gap > 0 {
			checkAdd(t, s, api.OK, x(0, gap))
		}
		checkAdd(t, s, api.OK, x(gap+1, 4))
		if gap > 0 {
			checkSet(t, s, x(0, gap), x(gap+1, 4))
		} else {
			checkSet(t, s, x(1, 4))
		}
		checkAdd(t, s, api.OK, x(gap, 1))
		checkSet(t, s, x(0, gap+5))
	}
}

// One extent joins as many of the set's as it overlaps or touches, and leaves those beside them.
func TestP11_1AddJoins(t *testing.T) {
	for from := range 8 {
		for to := from; to < 8; to++ {
			for _, touching := range []bool{false, true} {
				s := New(8)
				for k := range 8 {
					checkAdd(t, s, api.OK, x(10*k+5, 4))
				}
				e := x(10*from+8, 10*(to-from)-2) // the last block of one and the first of the other
				if touching {
					e = x(10*from+9, 10*(to-from)-4)
				}
				if from == to {
					e = x(10*from+5, 4)
				}
				var want []api.Extent
				for k := range 8 {
					switch {
					case k == from:
						want = append(want, x(10*from+5, 10*(to-from)+4))
					case k < from || k > to:
						want = append(want, x(10*k+5, 4))
					}
				}
				checkAdd(t, s, api.OK, e)
				checkSet(t, s, want...)
			}
		}
	}
}

// A set that is full takes what joins, and there is room behind it.
func TestP11_1AddMost(t *testing.T) {
	s := New(3)
	checkAdd(t, s, api.OK, x(5, 2), x(10, 2), x(15, 2))
	full := list(x(5, 2), x(10, 2), x(15, 2))
	for _, e := range list(x(0, 1), x(0, 4), x(8, 1), x(13, 1), x(18, 1), x(last, 1)) {
		checkAdd(t, s, errBig, e)
		checkSet(t, s, full...)
	}
	checkAdd(t, s, api.OK, x(5, 2))
	checkAdd(t, s, api.OK, x(7, 1))
	checkAdd(t, s, api.OK, x(9, 1))
	checkSet(t, s, x(5, 3), x(9, 3), x(15, 2))
	checkAdd(t, s, errBig, x(18, 1))
	checkAdd(t, s, api.OK, x(8, 1))
	checkSet(t, s, x(5, 7), x(15, 2))
	checkAdd(t, s, errBig, x(18, 1), x(20, 1))
	checkAdd(t, s, api.OK, x(18, 1))
	checkAdd(t, s, errBig, x(20, 1))
	checkSet(t, s, x(5, 7), x(15, 2), x(18, 1))
	checkAdd(t, s, api.OK, x(0, last))
	checkSet(t, s, x(0, last))
	checkAdd(t, s, api.OK, x(last, 1))
	checkSet(t, s, x(0, last+1))
	for _, e := range valid() {
		checkAdd(t, s, api.OK, e)
	}
	checkSet(t, s, x(0, last+1))
}

// Of several at once the whole is what counts.
func TestP11_1AddMostAtOnce(t *testing.T) {
	s := New(1)
	checkAdd(t, s, api.OK, x(0, 1), x(2, 1), x(4, 1), x(1, 1), x(3, 1))
	checkSet(t, s, x(0, 5))
	checkAdd(t, s, errBig, x(7, 1), x(5, 1))
	checkSet(t, s, x(0, 5))
	checkAdd(t, s, api.OK, x(7, 1), x(5, 2))
	checkSet(t, s, x(0, 8))

	s = New(2)
	checkAdd(t, s, api.OK, x(10, 1), x(20, 1))
	checkAdd(t, s, errBig, x(30, 1), x(11, 8))
	checkSet(t, s, x(10, 1), x(20, 1))
	checkAdd(t, s, api.OK, x(30, 1), x(11, 9))
	checkSet(t, s, x(10, 11), x(30, 1))
	checkAdd(t, s, errBig, x(0, 1), x(40, 1), x(21, 10))
	checkAdd(t, s, api.OK, x(0, 1), x(40, 1), x(21, 9), x(2, 8), x(1, 1))
	checkSet(t, s, x(0, 31), x(40, 1))

	s = New(0)
	checkAdd(t, s, errBig, x(0, 1))
	checkAdd(t, s, errBig, x(0, 1), x(1, 1))
	checkAdd(t, s, api.OK)
	checkSet(t, s)
}

// With one extent that is not valid nothing of it is added, wherever it stands.
func TestP11_1AddRefuses(t *testing.T) {
	right := list(x(0, 1), x(20, 2), x(9, 2))
	for _, e := range wrong() {
		s := New(9)
		checkAdd(t, s, errArg, e)
		checkSet(t, s)
		checkAdd(t, s, api.OK, x(5, 3), x(10, 2))
		checkAdd(t, s, errArg, e)
		checkAdd(t, s, errArg, e, e)
		for k := range len(right) + 1 {
			checkAdd(t, s, errArg, slices.Insert(slices.Clone(right), k, e)...)
			checkSet(t, s, x(5, 3), x(10, 2))
		}
		checkAdd(t, s, api.OK, right...)
		checkSet(t, s, x(0, 1), x(5, 3), x(9, 3), x(20, 2))
	}
}

// What is not valid is told ahead of what is too much.
func TestP11_1AddErrArgFirst(t *testing.T) {
	for _, most := range []int{-1, 0, 1, 2} {
		s := New(most)
		for k := range max(most, 0) {
			checkAdd(t, s, api.OK, x(5*k, 1))
		}
		before := s.Extents()
		for _, e := range wrong() {
			checkAdd(t, s, errArg, e)
			checkAdd(t, s, errArg, x(30, 1), e)
			checkAdd(t, s, errArg, x(30, 1), x(40, 1), x(50, 1), e)
			checkAdd(t, s, errArg, e, x(30, 1), x(40, 1))
			checkSet(t, s, before...)
		}
		checkAdd(t, s, errBig, x(30, 1))
		checkSet(t, s, before...)
	}
}

// After an error it goes on as if the call had not been.
func TestP11_1AddErrorLeavesNothing(t *testing.T) {
	s := New(2)
	checkAdd(t, s, api.OK, x(5, 2), x(10, 2))
	checkAdd(t, s, errBig, x(7, 1), x(20, 1))
	checkAdd(t, s, errBig, x(0, 1), x(5, 4))
	checkAdd(t, s, errArg, x(7, 3), x(7, 0))
	checkSet(t, s, x(5, 2), x(10, 2))
	checkHas(t, s, false, 0, 7, 8, 9, 20)
	checkMeets(t, s, false, x(7, 3), x(0, 5), x(12, 90))
	checkAdd(t, s, api.OK, x(7, 2))
	checkSet(t, s, x(5, 4), x(10, 2))
}

func TestP11_2Has(t *testing.T) {
	s := of(t, x(0, 3), x(5, 21), x(30, 1), x(last-1, 2))
	checkHas(t, s, true, 0, 1, 2, 5, 6, 15, 24, 25, 30, last-1, last)
	checkHas(t, s, false, 3, 4, 26, 27, 29, 31, 32, 1000, last-2, last-3)
	none := []int{-1, -2, -last, last + 1, last + 2, 2 * last, 1 << 32, 1<<32 + 1, -1 << 32, math.MaxInt, math.MaxInt - 1, math.MinInt, math.MinInt + 1}
	checkHas(t, s, false, none...)
	all := of(t, x(0, last), x(last, 1))
	checkHas(t, all, true, 0, 1, last/2, last-1, last)
	checkHas(t, all, false, none...)
	checkHas(t, of(t, x(1, last)), false, 0)
	checkHas(t, of(t, x(0, last)), false, last)
}

func TestP11_2Meets(t *testing.T) {
	s := of(t, x(1, 3), x(6, 20), x(30, 1))
	checkMeets(t, s, true, x(1, 1), x(3, 1), x(1, 3), x(0, 2), x(3, 2), x(3, 3), x(3, 4), x(2, 1), x(0, 5), x(0, last))
	checkMeets(t, s, true, x(6, 1), x(25, 1), x(25, 5), x(5, 2), x(4, 3), x(10, 2), x(6, 20), x(5, 22), x(30, 1), x(29, 2), x(29, 3), x(30, last-29))
	checkMeets(t, s, false, x(0, 1), x(4, 1), x(5, 1), x(4, 2), x(26, 1), x(29, 1), x(26, 4), x(27, 2), x(31, 1), x(31, last-30), x(last, 1))
	ends := of(t, x(0, 1), x(last, 1))
	checkMeets(t, ends, true, x(0, 1), x(0, 5), x(last, 1), x(last-4, 5), x(1, last), x(0, last))
	checkMeets(t, ends, false, x(1, 1), x(last-1, 1), x(1, last-1))
}

func TestP11_2MeetsExample(t *testing.T) {
	s := of(t, x(0, 3), x(5, 21))
	checkMeets(t, s, false, x(3, 2))
	checkMeets(t, s, true, x(3, 3), x(2, 2))
}

func TestP11_2MeetsWrong(t *testing.T) {
	for _, s := range []*Set{New(3), of(t, x(0, 3), x(5, 21), x(last-5, 6)), of(t, x(0, last), x(last, 1))} {
		checkMeets(t, s, false, wrong()...)
	}
}

func TestP11_2Crosses(t *testing.T) {
	s := of(t, x(0, 3), x(5, 21), x(last, 1))
	empty := New(4)
	checkCrosses(t, s, s, true)
	checkCrosses(t, s, empty, false)
	checkCrosses(t, empty, empty, false)
	checkCrosses(t, empty, New(0), false)
	rows := []struct {
		l    []api.Extent
		want bool
	}{
		{list(x(3, 2), x(26, 4)), false}, // they only touch, at each end
		{list(x(4, 2)), true},
		{list(x(3, 2), x(26, 4), x(5, 1)), true},
		{list(x(3, 2), x(25, 1)), true},
		{list(x(3, 2), x(26, last-26)), false},
		{list(x(3, 2), x(26, last-25)), true},
		{list(x(2, 2)), true},
		{list(x(3, 1), x(40, 1), x(60, 1), x(last-1, 1)), false},
		{list(x(3, 1), x(40, 1), x(60, 1), x(last, 1)), true},
		{list(x(10, 2)), true},
		{list(x(0, last), x(last, 1)), true},
		{list(x(1, last)), true},
	}
	for _, r := range rows {
		checkCrosses(t, s, of(t, r.l...), r.want)
	}
	all := of(t, x(0, last), x(last, 1))
	checkCrosses(t, all, all, true)
	checkCrosses(t, all, empty, false)
	for _, lba := range []int{0, 1, last / 2, last - 1, last} {
		checkCrosses(t, all, of(t, x(lba, 1)), true)
	}
}

// Many extents of each, turn by turn, that have nothing in common but the last, the first or a middle one.
func TestP11_2CrossesLong(t *testing.T) {
	var even, odd []api.Extent
	for k := range 100 {
		even = append(even, x(8*k, 4))
		odd = append(odd, x(8*k+4, 4))
	}
	s := New(100)
	for _, e := range even {
		checkAdd(t, s, api.OK, e)
	}
	checkCrosses(t, s, of(t, odd...), false)
	for k := range 100 {
		checkCrosses(t, s, of(t, slices.Concat(odd[:k], list(x(8*k+3, 5)), odd[k+1:])...), true)
		checkCrosses(t, s, of(t, x(8*k+3, 1)), true)
		checkCrosses(t, s, of(t, x(8*k+4, 1)), false)
	}
}

func TestP11_2Extents(t *testing.T) {
	s := New(2000)
	throw := dice(112)
	for range 1000 {
		checkAdd(t, s, api.OK, x(throw(9000), 1+throw(4)))
		l := s.Extents()
		for k := range len(l) - 1 {
			if l[k].First+l[k].Len >= l[k+1].First {
				t.Fatalf("%v and %v have no gap between, or stand the wrong way round", l[k], l[k+1])
			}
		}
	}
	if len(New(5).Extents()) != 0 {
		t.Error("a set without blocks has extents")
	}
}

func TestP11_2Count(t *testing.T) {
	s := New(5)
	for _, r := range []struct {
		e    api.Extent
		want int
	}{{x(7, 1), 1}, {x(7, 1), 1}, {x(9, 3), 4}, {x(8, 2), 5}, {x(last, 1), 6}, {x(0, 8), 13}, {x(0, last), last + 1}, {x(1, last), last + 1}} {
		checkAdd(t, s, api.OK, r.e)
		if got := s.Count(); got != r.want {
			t.Errorf("Count = %d behind %v, want %d", got, r.e, r.want)
		}
	}
}

func TestP11_2Cut(t *testing.T) {
	e := x(10, 10)
	checkCut(t, e, nil, e)
	checkCut(t, e, list(), e)
	checkCut(t, e, list(x(0, 10), x(20, 5)), e)
	checkCut(t, e, list(x(20, last-19), x(0, 9)), e)
	checkCut(t, e, list(x(0, 11)), x(11, 9))
	checkCut(t, e, list(x(10, 1)), x(11, 9))
	checkCut(t, e, list(x(19, 1)), x(10, 9))
	checkCut(t, e, list(x(19, 50)), x(10, 9))
	checkCut(t, e, list(x(19, 50), x(5, 6)), x(11, 8))
	checkCut(t, e, list(x(15, 1)), x(10, 5), x(16, 4))
	checkCut(t, e, list(x(15, 1), x(13, 1)), x(10, 3), x(14, 1), x(16, 4))
	checkCut(t, e, list(x(13, 1), x(15, 1), x(11, 1), x(17, 2)), x(10, 1), x(12, 1), x(14, 1), x(16, 1), x(19, 1))
	checkCut(t, e, list(x(14, 2), x(12, 2)), x(10, 2), x(16, 4))
	checkCut(t, e, list(x(14, 3), x(12, 3)), x(10, 2), x(17, 3))
	checkCut(t, e, list(x(12, 6), x(13, 1), x(15, 1)), x(10, 2), x(18, 2))
	checkCut(t, e, list(x(13, 1), x(15, 1), x(12, 6)), x(10, 2), x(18, 2))
	checkCut(t, e, list(x(12, 1), x(12, 1), x(12, 4)), x(10, 2), x(16, 4))
	checkCut(t, e, list(x(11, 8)), x(10, 1), x(19, 1))
	checkCut(t, e, list(e))
	checkCut(t, e, list(e, e))
	checkCut(t, e, list(x(9, 12)))
	checkCut(t, e, list(x(0, last)))
	checkCut(t, e, list(x(10, 5), x(15, 5)))
	checkCut(t, e, list(x(14, 6), x(10, 5)))
	checkCut(t, e, list(x(18, 2), x(10, 3), x(16, 2), x(13, 3)))
}

func TestP11_2CutAtTheEnds(t *testing.T) {
	checkCut(t, x(0, 1), nil, x(0, 1))
	checkCut(t, x(last, 1), nil, x(last, 1))
	checkCut(t, x(0, 1), list(x(0, 1)))
	checkCut(t, x(last, 1), list(x(last, 1)))
	checkCut(t, x(0, 1), list(x(1, last)), x(0, 1))
	checkCut(t, x(last, 1), list(x(0, last)), x(last, 1))
	checkCut(t, x(0, last), list(x(1, last)), x(0, 1))
	checkCut(t, x(1, last), list(x(0, last)), x(last, 1))
	checkCut(t, x(0, last), list(x(0, 1), x(last, 1)), x(1, last-1))
	checkCut(t, x(0, last), list(x(1, last-2)), x(0, 1), x(last-1, 1))
	checkCut(t, x(1, last), list(x(last-1, 1)), x(1, last-2), x(last, 1))
	checkCut(t, x(1, last), list(x(1, last-1), x(last, 1)))
	checkCut(t, x(0, last), list(x(0, last)))
	checkCut(t, x(1, last), list(x(1, last)))
	checkCut(t, x(1, last), list(x(0, last), x(1, last)))
}

func TestP11_2CutExample(t *testing.T) {
	checkCut(t, x(0, 20), list(x(3, 2), x(10, 5), x(4, 4), x(1, 1)), x(0, 1), x(2, 1), x(8, 2), x(15, 5))
}

func TestP11_2CutWrong(t *testing.T) {
	for _, e := range wrong() {
		checkCut(t, e, nil)
		checkCut(t, e, list(x(0, 1)))
		checkCut(t, e, list(e))
		checkCut(t, x(0, 5), list(e))
		checkCut(t, x(0, last), list(e))
		checkCut(t, x(0, 20), list(e, x(3, 1), x(5, 1)))
		checkCut(t, x(0, 20), list(x(3, 1), e, x(5, 1)))
		checkCut(t, x(0, 20), list(x(3, 1), x(5, 1), e))
		checkCut(t, x(0, 20), list(x(30, 1), e))
		checkCut(t, x(3, 1), list(x(3, 1), e))
	}
}

// The nil Set and the zero one answer alike, and go on doing so.
func TestP11_3NilAndZero(t *testing.T) {
	for _, s := range []*Set{nil, {}} {
		for range 2 {
			checkAdd(t, s, api.OK)
			checkAdd(t, s, api.OK, list()...)
			for _, e := range valid() {
				checkAdd(t, s, errBig, e)
				checkAdd(t, s, errBig, x(0, 1), e)
			}
			for _, e := range wrong() {
				checkAdd(t, s, errArg, e)
				checkAdd(t, s, errArg, x(0, 1), e)
				checkAdd(t, s, errArg, e, x(0, 1))
			}
			checkHas(t, s, false, 0, 1, -1, last, last+1, math.MaxInt, math.MinInt)
			checkMeets(t, s, false, valid()...)
			checkMeets(t, s, false, wrong()...)
			checkSet(t, s)
			for _, o := range []*Set{nil, {}, s, New(0), New(5), of(t, x(0, last), x(last, 1)), of(t, x(0, 1), x(5, 2))} {
				checkCrosses(t, s, o, false)
			}
		}
	}
}

// A set that is never filled and one without room are none but in what Add says.
func TestP11_3CrossesNil(t *testing.T) {
	var none *Set
	for _, s := range []*Set{New(0), New(4), of(t, x(3, 4)), of(t, x(0, last), x(last, 1))} {
		checkCrosses(t, s, none, false)
		checkCrosses(t, s, &Set{}, false)
	}
}

// permutations answers all orders of the numbers below n.
func permutations(n int) [][]int {
	if n == 0 {
		return [][]int{nil}
	}
	var all [][]int
	for _, p := range permutations(n - 1) {
		for k := range n {
			all = append(all, slices.Insert(slices.Clone(p), k, n-1))
		}
	}
	return all
}

// added is a set that extents were added to in groups: a bit of cuts ends a group.
func added(t *testing.T, l []api.Extent, order []int, cuts int) *Set {
	t.Helper()
	s := New(len(l))
	var group []api.Extent
	for k, i := range order {
		group = append(group, l[i])
		if cuts>>k&1 == 1 || k == len(order)-1 {
			checkAdd(t, s, api.OK, group...)
			group = nil
		}
	}
	return s
}

func TestP11_4OrderAndPieces(t *testing.T) {
	lists := [][]api.Extent{
		{x(5, 2), x(7, 1), x(0, 3), x(3, 2), x(20, 1)},
		{x(5, 2), x(5, 2), x(4, 4), x(1, 1), x(9, 1)},
		{x(0, 10), x(1, 1), x(3, 2), x(9, 2), x(12, 1)},
		{x(0, 1), x(2, 1), x(4, 1), x(6, 1), x(8, 1)},
		{x(0, 1), x(2, 1), x(4, 1), x(1, 1), x(3, 1)},
		{x(last, 1), x(0, 1), x(1, last-1), x(5, 5), x(3, 1)},
		{x(0, last), x(1, last), x(last, 1), x(0, 1), x(9, 9)},
	}
	for _, l := range lists {
		want := blocksOf(l...).extents()
		for _, order := range permutations(len(l)) {
			for cuts := range 1 << (len(l) - 1) {
				checkSet(t, added(t, l, order, cuts), want...)
			}
		}
	}
}

// The same blocks in pieces of any length are the same set.
func TestP11_4Pieces(t *testing.T) {
	for n := 1; n <= 12; n++ {
		for cuts := range 1 << (n - 1) {
			var pieces []api.Extent
			first := 100
			for k := range n {
				if cuts>>k&1 == 1 || k == n-1 {
					pieces = append(pieces, x(first, 101+k-first))
					first = 101 + k
				}
			}
			s := New(1)
			for _, e := range pieces {
				checkAdd(t, s, api.OK, e)
			}
			checkSet(t, s, x(100, n))
			slices.Reverse(pieces)
			back := New(1)
			checkAdd(t, back, api.OK, pieces...)
			checkSet(t, back, x(100, n))
		}
	}
}

// spare is a list with room behind it, and the whole of it.
func spare(l ...api.Extent) (short, whole []api.Extent) {
	whole = append(slices.Clone(l), x(777, 7), x(778, 8), x(779, 9))
	return whole[:len(l)], whole
}

func TestP11_4ArgumentsStay(t *testing.T) {
	given := list(x(9, 2), x(3, 4), x(5, 1), x(20, 1), x(3, 1), x(7, 1))
	l, whole := spare(given...)
	kept := slices.Clone(whole)
	s := New(10)
	checkAdd(t, s, api.OK, l...)
	want := s.Extents()
	checkAdd(t, s, api.OK, l...)
	checkAdd(t, New(1), errBig, l...)
	Cut(x(0, 30), l)
	Cut(x(4, 2), l)
	if !slices.Equal(whole, kept) {
		t.Fatalf("the arguments turn to %v", whole)
	}
	checkAdd(t, s, errArg, append(l, x(0, 0))...)
	for k := range whole {
		whole[k] = x(500+2*k, 1)
	}
	checkSet(t, s, want...)
	checkHas(t, s, false, 500, 502)
}

// One extent alone that is handed in, and more behind it in the same list.
func TestP11_4OneArgumentStays(t *testing.T) {
	l, whole := spare(x(5, 2))
	s := New(4)
	checkAdd(t, s, api.OK, l...)
	checkAdd(t, s, api.OK, x(7, 1))
	checkAdd(t, s, api.OK, x(10, 1), x(1, 1))
	if !slices.Equal(whole, list(x(5, 2), x(777, 7), x(778, 8), x(779, 9))) {
		t.Errorf("the argument turns to %v", whole)
	}
	whole[0] = x(60, 1)
	checkSet(t, s, x(1, 1), x(5, 3), x(10, 1))
	part, all := spare(x(30, 1))
	if got := Cut(x(3, 1), part); !slices.Equal(got, list(x(3, 1))) || !slices.Equal(all, list(x(30, 1), x(777, 7), x(778, 8), x(779, 9))) {
		t.Errorf("Cut = %v, and its argument turns to %v", got, all)
	}
}

// spoil changes all that a list reaches.
func spoil(l []api.Extent) {
	whole := l[:cap(l)]
	for k := range whole {
		whole[k] = x(-9, -9)
	}
}

func TestP11_4ResultsAreNew(t *testing.T) {
	s := New(9)
	want := list(x(1, 1), x(3, 2), x(9, 1))
	checkAdd(t, s, api.OK, want...)
	one, two := s.Extents(), s.Extents()
	spoil(one)
	if !slices.Equal(two, want) {
		t.Errorf("two lists share: %v", two)
	}
	checkSet(t, s, want...)
	checkHas(t, s, true, 1, 3, 4, 9)
	kept := s.Extents()
	checkAdd(t, s, api.OK, x(0, 1), x(2, 1), x(20, 1))
	checkAdd(t, s, api.OK, x(5, 4))
	if !slices.Equal(kept, want) {
		t.Errorf("what Extents returned turns to %v", kept)
	}
	checkSet(t, s, x(0, 10), x(20, 1))

	off := list(x(3, 2))
	for _, e := range list(x(0, 9), x(3, 9), x(0, 5), x(20, 1)) {
		left := Cut(e, off)
		before := slices.Clone(left)
		spoil(Cut(e, off))
		if !slices.Equal(left, before) || !slices.Equal(Cut(e, off), before) || off[0] != x(3, 2) {
			t.Errorf("Cut(%v) shares: %v, %v", e, left, off)
		}
	}
	o := of(t, x(6, 2), x(20, 1))
	spoil(Cut(x(0, 30), o.Extents()))
	checkSet(t, o, x(6, 2), x(20, 1))
}

// What one set is handed of another one is its own.
func TestP11_4StandApart(t *testing.T) {
	a := of(t, x(1, 1), x(5, 1))
	b := New(5)
	checkAdd(t, b, api.OK, a.Extents()...)
	checkAdd(t, a, api.OK, x(2, 3))
	checkSet(t, a, x(1, 5))
	checkSet(t, b, x(1, 1), x(5, 1))
	checkAdd(t, b, api.OK, x(6, 1), x(9, 1))
	checkSet(t, a, x(1, 5))
	checkSet(t, b, x(1, 1), x(5, 2), x(9, 1))
	if !a.Crosses(b) || !b.Crosses(a) {
		t.Error("Crosses is false")
	}
	checkSet(t, a, x(1, 5))
	checkSet(t, b, x(1, 1), x(5, 2), x(9, 1))
}

// blocks is a set of another hand: each of its blocks for itself.
type blocks map[int]struct{}

func blocksOf(l ...api.Extent) blocks {
	b := blocks{}
	for _, e := range l {
		for k := range e.Len {
			b[e.First+k] = struct{}{}
		}
	}
	return b
}

func (b blocks) has(lba int) bool {
	_, ok := b[lba]
	return ok
}

// extents grows one from each block that has none below it.
func (b blocks) extents() []api.Extent {
	var l []api.Extent
	for lba := range b {
		if b.has(lba - 1) {
			continue
		}
		n := 1
		for b.has(lba + n) {
			n++
		}
		l = append(l, x(lba, n))
	}
	slices.SortFunc(l, func(x, y api.Extent) int { return x.First - y.First })
	return l
}

func (b blocks) meets(e api.Extent) bool {
	for k := range e.Len {
		if b.has(e.First + k) {
			return true
		}
	}
	return false
}

// without is the blocks of an extent that are none of these.
func (b blocks) without(e api.Extent) blocks {
	rest := blocks{}
	for k := range e.Len {
		if !b.has(e.First + k) {
			rest[e.First+k] = struct{}{}
		}
	}
	return rest
}

// within is all extents of the blocks from first on, n of them.
func within(first, n int) []api.Extent {
	var all []api.Extent
	for from := range n {
		for size := 1; size <= n-from; size++ {
			all = append(all, x(first+from, size))
		}
	}
	return all
}

// places is where the short rows are played: at the first block, at the last one, between.
func places(n int) []int { return []int{0, 1000, last - n + 1} }

// Every row of three extents among a few blocks, added one by one and at once, to sets of every size.
func TestP11_1AllShortRows(t *testing.T) {
	const n = 6
	for _, first := range places(n) {
		all := within(first, n)
		for _, a := range all {
			for _, b := range all {
				for _, c := range all {
					for most := range 4 {
						playRow(t, most, a, b, c)
					}
				}
			}
		}
	}
}

func playRow(t *testing.T, most int, l ...api.Extent) {
	t.Helper()
	s := New(most)
	var got []api.Extent // those that fitted
	for _, e := range l {
		want := api.OK
		if len(blocksOf(append(slices.Clone(got), e)...).extents()) > most {
			want = errBig
		} else {
			got = append(got, e)
		}
		checkAdd(t, s, want, e)
	}
	checkSet(t, s, blocksOf(got...).extents()...)

	whole := blocksOf(l...).extents()
	s = New(most)
	if len(whole) > most {
		checkAdd(t, s, errBig, l...)
		checkSet(t, s)
		return
	}
	checkAdd(t, s, api.OK, l...)
	checkSet(t, s, whole...)
}

// sets is every set of some blocks.
func sets(t *testing.T, first, n int) ([]*Set, []blocks) {
	t.Helper()
	var all []*Set
	var same []blocks
	for bits := range 1 << n {
		s, b := New(n), blocks{}
		for k := range n {
			if bits>>k&1 == 1 {
				checkAdd(t, s, api.OK, x(first+k, 1))
				b[first+k] = struct{}{}
			}
		}
		all, same = append(all, s), append(same, b)
	}
	return all, same
}

func TestP11_2AllSmallSets(t *testing.T) {
	const n = 7
	for _, first := range places(n) {
		all, same := sets(t, first, n)
		for k, s := range all {
			checkSet(t, s, same[k].extents()...)
			for lba := first - 2; lba < first+n+2; lba++ {
				checkHas(t, s, same[k].has(lba), lba)
			}
			for _, e := range within(first-1, n+2) {
				right := e.First >= 0 && e.First+e.Len <= last+1
				checkMeets(t, s, right && same[k].meets(e), e)
			}
		}
	}
}

func TestP11_2AllSmallPairs(t *testing.T) {
	const n = 7
	for _, first := range places(n) {
		all, _ := sets(t, first, n)
		for i, s := range all {
			for k, o := range all {
				if got := s.Crosses(o); got != (i&k != 0) { // an index's bits are the set's blocks
					t.Fatalf("%v Crosses %v = %v", s.Extents(), o.Extents(), got)
				}
			}
		}
	}
}

// Every cut of an extent by none to three others among a few blocks.
func TestP11_2AllSmallCuts(t *testing.T) {
	const n = 5
	for _, first := range places(n) {
		all := within(first, n)
		for _, e := range all {
			checkCut(t, e, nil, e)
			for _, a := range all {
				checkCut(t, e, list(a), blocksOf(a).without(e).extents()...)
				for _, b := range all {
					checkCut(t, e, list(a, b), blocksOf(a, b).without(e).extents()...)
					for _, c := range all {
						checkCut(t, e, list(a, b, c), blocksOf(a, b, c).without(e).extents()...)
					}
				}
			}
		}
	}
}

// Thrown extents, one to four at once and some of them wrong, held to the other hand's set behind every call.
func TestP11_4Thrown(t *testing.T) {
	for seed := range 40 {
		throw := dice(uint64(seed))
		most := []int{1, 3, 8, 20}[seed%4]
		space := 20*most + throw(160)
		s, b := New(most), blocks{}
		codes := [3]int{}
		bad := wrong()
		for range 400 {
			var l []api.Extent
			for range 1 + throw(4) {
				l = append(l, x(throw(space), 1+throw(5)))
			}
			want, next := api.OK, blocksOf(append(b.extents(), l...)...)
			switch {
			case throw(8) == 0:
				want, l[throw(len(l))] = errArg, bad[throw(len(bad))]
				codes[1]++
			case len(next.extents()) > most:
				want = errBig
				codes[2]++
			default:
				b = next
				codes[0]++
			}
			checkAdd(t, s, want, l...)
			checkSet(t, s, b.extents()...)
			checkThrown(t, s, b, throw, space)
		}
		if most > 1 && slices.Contains(codes[:], 0) {
			t.Errorf("the throws are one-sided: %v", codes)
		}
	}
}

func checkThrown(t *testing.T, s *Set, b blocks, throw func(int) int, space int) {
	t.Helper()
	lba, e := throw(space+9)-2, x(throw(space), 1+throw(9))
	checkHas(t, s, b.has(lba), lba)
	checkMeets(t, s, b.meets(e), e)
	checkCrosses(t, s, of(t, e), b.meets(e))
	checkCut(t, e, s.Extents(), b.without(e).extents()...)
}

// Asking changes nothing.
func TestP11_4AskingChangesNothing(t *testing.T) {
	s := of(t, x(3, 2), x(9, 1))
	o := of(t, x(4, 1), x(20, 2))
	before := fmt.Sprint(s.Extents(), o.Extents())
	s.Has(3)
	s.Meets(x(0, 5))
	s.Meets(x(0, 0))
	s.Crosses(o)
	o.Crosses(s)
	s.Count()
	Cut(x(0, 9), s.Extents())
	if after := fmt.Sprint(s.Extents(), o.Extents()); after != before {
		t.Errorf("%s turns to %s", before, after)
	}
}

// Every second block, many of them, in three orders, and then what joins them all.
func TestP11_4Many(t *testing.T) {
	const n = 20000
	for _, step := range []int{1, n - 1, 7919} { // forth, back, strewn: each has no divisor in common with n
		s := New(n)
		for k := range n {
			checkAdd(t, s, api.OK, x(2*(k*step%n), 1))
		}
		if s.Count() != n || len(s.Extents()) != n {
			t.Fatalf("%d blocks in %d extents", s.Count(), len(s.Extents()))
		}
		checkAdd(t, s, errBig, x(2*n, 1))
		checkAdd(t, s, api.OK, x(0, 2*n))
		checkSet(t, s, x(0, 2*n))
	}
}
