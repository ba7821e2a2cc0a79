package horizon

import (
	"fmt"
	"math"
	"slices"
	"testing"

	"scarp/api"
)

// The chapter's numbers, of their own.
const (
	end     = 1 << 40 // the last time
	errArg  = api.Errno(1)
	errMany = api.Errno(6)
	errNone = api.Errno(14)
)

// dice answers numbers, the same ones at each run.
func dice(seed uint64) func(n int) int {
	state := seed
	return func(n int) int {
		state = state*6364136223846793005 + 1442695040888963407
		return int((state >> 33) % uint64(n))
	}
}

// of makes a book with handles of these times.
func of(t *testing.T, most int, times ...int) *Book {
	t.Helper()
	b := New(most)
	if b == nil {
		t.Fatalf("New(%d) is nil", most)
	}
	for k, at := range times {
		checkOpen(t, b, at, k+1)
	}
	return b
}

func checkOpen(t *testing.T, b *Book, at, want int) {
	t.Helper()
	if h, code := b.Open(at); h != want || code != api.OK {
		t.Fatalf("Open(%d) = %d, %d, want %d, 0", at, h, code, want)
	}
}

func checkNoOpen(t *testing.T, b *Book, at int, want api.Errno) {
	t.Helper()
	if h, code := b.Open(at); h != 0 || code != want {
		t.Fatalf("Open(%d) = %d, %d, want 0, %d", at, h, code, want)
	}
}

func checkClose(t *testing.T, b *Book, h int, want api.Errno) {
	t.Helper()
	if code := b.Close(h); code != want {
		t.Fatalf("Close(%d) = %d, want %d", h, code, want)
	}
}

func checkAt(t *testing.T, b *Book, h, want int) {
	t.Helper()
	if at, code := b.At(h); at != want || code != api.OK {
		t.Fatalf("At(%d) = %d, %d, want %d, 0", h, at, code, want)
	}
}

func checkNoAt(t *testing.T, b *Book, handles ...int) {
	t.Helper()
	for _, h := range handles {
		if at, code := b.At(h); at != 0 || code != errNone {
			t.Fatalf("At(%d) = %d, %d, want 0, 14", h, at, code)
		}
	}
}

func checkLow(t *testing.T, b *Book, now, want int) {
	t.Helper()
	if got := b.Low(now); got != want {
		t.Fatalf("Low(%d) = %d, want %d, with %v", now, got, want, b.List())
	}
}

// checkList holds the open handles to what should be, and their number too.
func checkList(t *testing.T, b *Book, want ...int) {
	t.Helper()
	if got := b.List(); !slices.Equal(got, want) {
		t.Fatalf("List = %v, want %v", got, want)
	}
	if got := b.Count(); got != len(want) {
		t.Fatalf("Count = %d, want %d", got, len(want))
	}
}

// told is all that can be asked of handles up to one, without changing the book.
func told(b *Book, last int) string {
	s := fmt.Sprint(b.Count(), b.List(), b.Low(math.MaxInt), b.Low(math.MinInt))
	for h := -1; h <= last; h++ {
		at, code := b.At(h)
		s += fmt.Sprint(" ", h, ":", at, "/", code)
	}
	return s
}

// wrongTimes are none that a handle may have.
func wrongTimes() []int {
	return []int{-1, -2, -256, -1 << 32, -end, -end - 1, math.MinInt + 1, math.MinInt, end + 1, end + 2, 2 * end, 1 << 62, 1<<62 + 1, math.MaxInt - 1, math.MaxInt}
}

// noHandles are none of a book that gave as many as that.
func noHandles(given int) []int {
	l := []int{0, -1, -2, -given, -256, -1 << 32, math.MinInt, math.MinInt + 1, given + 1, given + 2, given + 256, 1 << 31, 1 << 40, math.MaxInt}
	for h := range given + 1 { // those that are cut to 32 bits and to 8
		l = append(l, 1<<32+h, -1<<32+h, (given+255)/256*256+256+h)
	}
	return l
}

// upTo is the handles from one to another.
func upTo(from, last int) []int {
	var l []int
	for h := from; h <= last; h++ {
		l = append(l, h)
	}
	return l
}

// empties are books without handles: new ones, and some that had one.
func empties(t *testing.T) []*Book {
	t.Helper()
	had := of(t, 3, 5, 0, 9)
	for _, h := range []int{2, 1, 3} {
		checkClose(t, had, h, api.OK)
	}
	return []*Book{New(1), New(16), New(0), New(-1), had, nil, {}}
}

func TestP13_1New(t *testing.T) {
	for _, most := range []int{1, 2, 3, 8, 16, 17, 100, 1000, 65537} {
		b := of(t, most)
		checkList(t, b)
		checkLow(t, b, 9, 9)
		checkNoAt(t, b, noHandles(0)...)
		for h := 1; h <= most; h++ {
			checkOpen(t, b, h%7, h)
		}
		checkNoOpen(t, b, 1, errMany)
		checkList(t, b, upTo(1, most)...)
	}
}

func TestP13_1NewWithoutRoom(t *testing.T) {
	for _, most := range []int{0, -1, -2, -16, -1 << 31, -1 << 32, -1<<32 + 5, math.MinInt + 1, math.MinInt} {
		b := of(t, most)
		for _, at := range []int{0, 1, 5, end} {
			checkNoOpen(t, b, at, errMany)
		}
		for _, at := range wrongTimes() {
			checkNoOpen(t, b, at, errArg)
		}
		checkList(t, b)
		checkLow(t, b, 9, 9)
		checkNoAt(t, b, noHandles(0)...)
		checkClose(t, b, 1, errNone)
	}
}

// A great book asks for no room ahead, and its greatness is not cut.
func TestP13_1NewGreat(t *testing.T) {
	for _, most := range []int{1 << 31, 1 << 32, 1<<32 + 1, 1 << 62, math.MaxInt - 1, math.MaxInt} {
		b := of(t, most, 4, 0, 9)
		checkList(t, b, 1, 2, 3)
		checkLow(t, b, 7, 0)
	}
}

func TestP13_1Open(t *testing.T) {
	times := []int{0, end, 1, end - 1, 255, 256, 1 << 16, 1 << 31, 1<<31 - 1, 1 << 32, 1<<32 + 1, 5, 5, 0, end}
	b := of(t, len(times), times...)
	checkList(t, b, upTo(1, len(times))...)
	for k, at := range times {
		checkAt(t, b, k+1, at)
		one := of(t, 1, at)
		checkAt(t, one, 1, at)
		checkLow(t, one, math.MaxInt, at)
		checkList(t, one, 1)
	}
}

func TestP13_1OpenExample(t *testing.T) {
	b := of(t, 3, 5, 3, 8)
	checkClose(t, b, 2, api.OK)
	checkOpen(t, b, 6, 4)
	checkList(t, b, 1, 3, 4)
	checkNoAt(t, b, 2)
}

// Whichever handles are closed, also the last one or all of them, the next one has the next number.
func TestP13_1OpenBehindClose(t *testing.T) {
	for closed := range 1 << 3 {
		b := of(t, 3, 5, 3, 8)
		var stay []int
		for h := 1; h <= 3; h++ {
			if closed>>(h-1)&1 == 1 {
				checkClose(t, b, h, api.OK)
			} else {
				stay = append(stay, h)
			}
		}
		if len(stay) == 3 {
			checkNoOpen(t, b, 6, errMany)
			continue
		}
		for h := 4; len(stay) < 3; h++ {
			checkOpen(t, b, 6, h)
			stay = append(stay, h)
		}
		checkNoOpen(t, b, 6, errMany)
		checkList(t, b, stay...)
	}
}

func TestP13_1OpenFull(t *testing.T) {
	for most := 1; most <= 20; most++ {
		b := of(t, most, make([]int, most)...)
		next := most + 1
		for h := 1; h <= most; h++ {
			checkNoOpen(t, b, 5, errMany)
			checkNoOpen(t, b, 0, errMany)
			checkClose(t, b, h, api.OK)
			checkOpen(t, b, 5, next)
			next++
		}
		checkNoOpen(t, b, end, errMany)
		checkList(t, b, upTo(most+1, 2*most)...)
	}
}

func TestP13_1OpenRefuses(t *testing.T) {
	wrong := wrongTimes()
	b := of(t, 4, 5, 3)
	before := told(b, 5)
	for _, at := range wrong { // there is room
		checkNoOpen(t, b, at, errArg)
		if after := told(b, 5); after != before {
			t.Fatalf("Open(%d): %s turns to %s", at, before, after)
		}
	}
	checkOpen(t, b, 7, 3)
	checkOpen(t, b, 1, 4)
	before = told(b, 5)
	for _, at := range wrong { // it is full
		checkNoOpen(t, b, at, errArg)
		checkNoOpen(t, b, max(0, min(at, end)), errMany)
		if after := told(b, 5); after != before {
			t.Fatalf("Open(%d): %s turns to %s", at, before, after)
		}
	}
	checkClose(t, b, 3, api.OK)
	checkOpen(t, b, 0, 5)
}

// An Open that is refused uses no number, whether it is the first call or one between others.
func TestP13_1OpenRefusedUsesNoNumber(t *testing.T) {
	b := New(2)
	for h := 1; h <= 50; h++ {
		for _, at := range wrongTimes() {
			checkNoOpen(t, b, at, errArg)
		}
		checkOpen(t, b, h, h)
		if h > 1 {
			checkNoOpen(t, b, 1, errMany)
			checkNoOpen(t, b, -1, errArg)
			checkClose(t, b, h-1, api.OK)
		}
		checkList(t, b, h)
	}
}

func TestP13_1Close(t *testing.T) {
	b := of(t, 5, 7, 4, 4, 0, end)
	for _, step := range []struct {
		h    int
		stay []int
	}{
		{3, []int{1, 2, 4, 5}},
		{1, []int{2, 4, 5}},
		{5, []int{2, 4}},
		{4, []int{2}},
		{2, nil},
	} {
		checkClose(t, b, step.h, api.OK)
		checkList(t, b, step.stay...)
		checkNoAt(t, b, step.h)
		checkClose(t, b, step.h, errNone)
		checkList(t, b, step.stay...)
		for _, h := range step.stay {
			checkAt(t, b, h, []int{7, 4, 4, 0, end}[h-1])
		}
	}
	checkOpen(t, b, 1, 6)
	checkList(t, b, 6)
}

// Each one of a few handles, closed in every order.
func TestP13_1CloseInEveryOrder(t *testing.T) {
	times := []int{6, 2, 9, 2}
	for first := range 4 {
		for second := range 4 {
			for third := range 4 {
				b, same := of(t, 4, times...), &rows{most: 4}
				for _, at := range times {
					same.open(at)
				}
				for _, k := range []int{first, second, third} {
					checkClose(t, b, k+1, same.close(k+1))
					checkSame(t, b, same)
				}
			}
		}
	}
}

func TestP13_1CloseRefuses(t *testing.T) {
	b := of(t, 9, 5, 3, 8, 0)
	checkClose(t, b, 2, api.OK)
	before := told(b, 6)
	for _, h := range append(noHandles(4), 2) {
		checkClose(t, b, h, errNone)
		if after := told(b, 6); after != before {
			t.Fatalf("Close(%d): %s turns to %s", h, before, after)
		}
	}
	checkOpen(t, b, 1, 5)
	for _, b := range empties(t) {
		for _, h := range noHandles(3) {
			checkClose(t, b, h, errNone)
			checkList(t, b)
		}
		checkClose(t, b, 1, errNone)
	}
}

func TestP13_1At(t *testing.T) {
	for _, times := range [][]int{
		{5}, {0}, {end}, {0, 0}, {5, 5, 5}, {1, 2, 3}, {3, 2, 1}, {5, 3, 5, 3}, {end, 0, end}, {2, 1, 3}, {0, 1 << 32, 1}, {9, 9, 0, 9},
	} {
		b := of(t, len(times)+1, times...)
		for k, at := range times {
			checkAt(t, b, k+1, at)
			checkAt(t, b, k+1, at) // asking changes nothing
		}
		checkNoAt(t, b, noHandles(len(times))...)
		checkList(t, b, upTo(1, len(times))...)
	}
}

// A time is that of its handle alone, whatever is opened and closed beside it.
func TestP13_1AtStays(t *testing.T) {
	b := of(t, 3, 7)
	for h := 2; h <= 300; h++ {
		checkOpen(t, b, h*31%11, h)
		checkAt(t, b, 1, 7)
		checkAt(t, b, h, h*31%11)
		checkNoAt(t, b, h+1)
		checkClose(t, b, h, api.OK)
		checkAt(t, b, 1, 7)
		checkNoAt(t, b, h)
	}
	checkList(t, b, 1)
}

func TestP13_1AtRefuses(t *testing.T) {
	b := of(t, 4, 5, 3, 8)
	checkClose(t, b, 1, api.OK)
	checkNoAt(t, b, noHandles(3)...)
	checkNoAt(t, b, 1)
	checkClose(t, b, 3, api.OK)
	checkNoAt(t, b, 1, 3)
	checkOpen(t, b, 6, 4)
	checkNoAt(t, b, 1, 3, 5)
	checkAt(t, b, 2, 3)
	checkAt(t, b, 4, 6)
	for _, b := range empties(t) {
		checkNoAt(t, b, noHandles(3)...)
	}
}

func TestP13_2LowOfNone(t *testing.T) {
	for _, b := range empties(t) {
		for _, now := range append(wrongTimes(), 0, 1, 5, end-1, end) {
			checkLow(t, b, now, now)
		}
	}
}

func TestP13_2LowExample(t *testing.T) {
	for _, times := range [][]int{{5, 3}, {3, 5}} {
		b := of(t, 2, times...)
		checkLow(t, b, 9, 3)
		checkLow(t, b, 2, 2)
	}
}

func TestP13_2Low(t *testing.T) {
	for _, c := range []struct {
		times []int
		least int
	}{
		{[]int{5}, 5}, {[]int{0}, 0}, {[]int{end}, end}, {[]int{1}, 1}, {[]int{4, 4}, 4}, {[]int{9, 7, 8}, 7}, {[]int{7, 8, 9}, 7}, {[]int{9, 8, 7}, 7},
		{[]int{end, end - 1}, end - 1}, {[]int{end, end}, end}, {[]int{end, 0, 5}, 0}, {[]int{0, 0, 0}, 0}, {[]int{1 << 32, 1<<32 + 1}, 1 << 32}, {[]int{1 << 32, 1}, 1},
	} {
		b := of(t, len(c.times), c.times...)
		for _, now := range []int{c.least, c.least + 1, c.least + 2, end, end + 1, math.MaxInt} {
			checkLow(t, b, now, min(now, c.least))
		}
		for _, now := range []int{c.least - 1, c.least - 2, -1, -5, -end, -1 << 32, math.MinInt} {
			checkLow(t, b, now, min(now, c.least))
		}
		checkLow(t, b, math.MaxInt, c.least)
		checkLow(t, b, -1, -1)
		checkLow(t, b, math.MinInt, math.MinInt)
	}
}

func TestP13_2LowBehindClose(t *testing.T) {
	b := of(t, 5, 5, 3, 8, 3)
	checkLow(t, b, 9, 3)
	checkClose(t, b, 2, api.OK)
	checkLow(t, b, 9, 3) // there is another one of that time
	checkClose(t, b, 4, api.OK)
	checkLow(t, b, 9, 5)
	checkLow(t, b, 4, 4)
	checkClose(t, b, 3, api.OK)
	checkLow(t, b, 9, 5)
	checkOpen(t, b, 4, 5)
	checkLow(t, b, 9, 4)
	checkOpen(t, b, 0, 6)
	checkLow(t, b, 9, 0)
	checkLow(t, b, -3, -3)
	checkClose(t, b, 6, api.OK)
	checkLow(t, b, 9, 4)
	checkClose(t, b, 5, api.OK)
	checkLow(t, b, 9, 5)
	checkClose(t, b, 1, api.OK)
	checkLow(t, b, 9, 9)
	checkLow(t, b, -3, -3)
}

// now is no handle's: what was asked once is not kept.
func TestP13_2LowKeepsNothing(t *testing.T) {
	b := of(t, 2, 5)
	before := told(b, 2)
	for _, now := range append(wrongTimes(), 0, 1, 4, 5, 6) {
		checkLow(t, b, now, min(now, 5))
		checkLow(t, b, 9, 5)
		if after := told(b, 2); after != before {
			t.Fatalf("Low(%d): %s turns to %s", now, before, after)
		}
	}
}

func TestP13_2CountAndList(t *testing.T) {
	b := New(4)
	checkList(t, b)
	checkOpen(t, b, 9, 1)
	checkList(t, b, 1)
	checkOpen(t, b, 1, 2) // by handle, not by time
	checkList(t, b, 1, 2)
	checkOpen(t, b, 5, 3)
	checkOpen(t, b, 0, 4)
	checkList(t, b, 1, 2, 3, 4)
	checkNoOpen(t, b, 0, errMany)
	checkNoOpen(t, b, -1, errArg)
	checkList(t, b, 1, 2, 3, 4)
	checkClose(t, b, 2, api.OK) // in the middle
	checkList(t, b, 1, 3, 4)
	checkClose(t, b, 1, api.OK) // the first
	checkList(t, b, 3, 4)
	checkOpen(t, b, 7, 5)
	checkList(t, b, 3, 4, 5)
	checkClose(t, b, 5, api.OK) // the last
	checkList(t, b, 3, 4)
	checkClose(t, b, 5, errNone)
	checkList(t, b, 3, 4)
	checkOpen(t, b, 2, 6)
	checkOpen(t, b, 2, 7)
	checkList(t, b, 3, 4, 6, 7)
	for _, h := range []int{4, 7, 3, 6} {
		checkClose(t, b, h, api.OK)
	}
	checkList(t, b)
	checkOpen(t, b, 0, 8)
	checkList(t, b, 8)
}

// In ascending order at any number of digits.
func TestP13_2ListOrder(t *testing.T) {
	b := New(30)
	var want []int
	for h := 1; h <= 1100; h++ {
		if len(want) == 30 {
			checkClose(t, b, want[h%30], api.OK)
			want = slices.Delete(want, h%30, h%30+1)
		}
		checkOpen(t, b, (1100-h)%13, h)
		want = append(want, h)
		checkList(t, b, want...)
	}
}

func TestP13_2NilAndZero(t *testing.T) {
	for _, b := range []*Book{nil, {}} {
		for range 3 { // as often as it is called
			for _, at := range []int{0, 1, 5, end - 1, end} {
				checkNoOpen(t, b, at, errMany)
			}
			for _, at := range wrongTimes() {
				checkNoOpen(t, b, at, errArg)
				checkLow(t, b, at, at)
			}
			for _, h := range noHandles(4) {
				checkClose(t, b, h, errNone)
				checkNoAt(t, b, h)
			}
			checkClose(t, b, 1, errNone)
			checkNoAt(t, b, 1)
			checkLow(t, b, 0, 0)
			checkLow(t, b, 7, 7)
			checkList(t, b)
		}
	}
	one, other := told(nil, 3), told(&Book{}, 3)
	if one != other {
		t.Errorf("a nil Book tells %s, the zero Book %s", one, other)
	}
}

func TestP13_3NoHandleTwice(t *testing.T) {
	b := New(16)
	given := map[int]struct{}{}
	throw := dice(13)
	last := 0
	for range 20000 {
		if l := b.List(); len(l) == 16 || len(l) > 0 && throw(2) == 0 {
			checkClose(t, b, l[throw(len(l))], api.OK)
			continue
		}
		h, code := b.Open(throw(50))
		if code != api.OK {
			t.Fatalf("Open is refused by %d", code)
		}
		if _, twice := given[h]; twice || h != last+1 {
			t.Fatalf("Open = %d behind %d", h, last)
		}
		given[h] = struct{}{}
		last = h
	}
	open := b.List()
	for h := range given {
		if _, code := b.At(h); (code == api.OK) != slices.Contains(open, h) {
			t.Fatalf("At(%d) is refused by %d, with %v", h, code, open)
		}
	}
}

// spoil changes all that a list reaches.
func spoil(l []int) {
	whole := l[:cap(l)]
	for k := range whole {
		whole[k] = -9
	}
}

func TestP13_3ResultsAreNew(t *testing.T) {
	b := of(t, 5, 5, 3, 8)
	one, two := b.List(), b.List()
	before := told(b, 5)
	spoil(one)
	if !slices.Equal(two, []int{1, 2, 3}) {
		t.Errorf("two lists share: %v", two)
	}
	if after := told(b, 5); after != before {
		t.Errorf("%s turns to %s", before, after)
	}
	checkList(t, b, 1, 2, 3)
	spoil(two)
	spoil(append(b.List(), 7))
	checkList(t, b, 1, 2, 3)
	checkAt(t, b, 1, 5)
	checkLow(t, b, 9, 3)

	kept := b.List()
	checkOpen(t, b, 6, 4)
	checkClose(t, b, 1, api.OK)
	checkClose(t, b, 3, api.OK)
	checkOpen(t, b, 0, 5)
	if !slices.Equal(kept, []int{1, 2, 3}) {
		t.Errorf("what List returned turns to %v", kept)
	}
	checkList(t, b, 2, 4, 5)
}

func TestP13_3BooksStandApart(t *testing.T) {
	a, b := of(t, 2, 5, 3), of(t, 3, 9)
	if a == b || New(2) == New(2) {
		t.Fatal("New returns a book twice")
	}
	checkNoOpen(t, a, 1, errMany)
	checkOpen(t, b, 7, 2)
	checkList(t, a, 1, 2)
	checkAt(t, a, 1, 5)
	checkAt(t, b, 1, 9)
	checkClose(t, a, 1, api.OK)
	checkNoAt(t, a, 1)
	checkAt(t, b, 1, 9)
	checkLow(t, a, 20, 3)
	checkLow(t, b, 20, 7)
	checkOpen(t, b, 1, 3)
	checkOpen(t, a, 8, 3)
	checkNoOpen(t, b, 1, errMany)
	checkClose(t, b, 3, api.OK)
	checkAt(t, a, 3, 8)
	checkList(t, a, 2, 3)
	checkList(t, b, 1, 2)
	checkList(t, New(2))
	var none Book // a zero one is no other book's room
	checkNoOpen(t, &none, 1, errMany)
	checkList(t, &none)
}

// row is a handle that was given.
type row struct {
	at     int
	closed bool
}

// rows is a book of another hand: all handles that were given, a closed one crossed out.
type rows struct {
	most int
	all  []row
}

func (r *rows) list() []int {
	var l []int
	for k, x := range r.all {
		if !x.closed {
			l = append(l, k+1)
		}
	}
	return l
}

func (r *rows) open(at int) (int, api.Errno) {
	if at < 0 || at > end {
		return 0, errArg
	}
	if len(r.list()) >= r.most {
		return 0, errMany
	}
	r.all = append(r.all, row{at: at})
	return len(r.all), api.OK
}

func (r *rows) close(h int) api.Errno {
	if !slices.Contains(r.list(), h) {
		return errNone
	}
	r.all[h-1].closed = true
	return api.OK
}

func (r *rows) low(now int) int {
	l := []int{now}
	for _, h := range r.list() {
		l = append(l, r.all[h-1].at)
	}
	slices.Sort(l)
	return l[0]
}

// checkSame holds all that can be asked of a book to the other hand's.
func checkSame(t *testing.T, b *Book, r *rows) {
	t.Helper()
	checkList(t, b, r.list()...)
	for k, x := range r.all {
		if x.closed {
			checkNoAt(t, b, k+1)
		} else {
			checkAt(t, b, k+1, x.at)
		}
	}
	checkNoAt(t, b, -1, 0, len(r.all)+1)
	for _, now := range []int{-1, 0, 2, 4, 6, math.MaxInt} {
		checkLow(t, b, now, r.low(now))
	}
}

// call is an Open of a time, or a Close of a handle.
type call struct {
	closes bool
	n      int
}

// play does one call at both books.
func play(t *testing.T, b *Book, r *rows, c call) {
	t.Helper()
	if c.closes {
		checkClose(t, b, c.n, r.close(c.n))
		return
	}
	if h, code := r.open(c.n); code != api.OK {
		checkNoOpen(t, b, c.n, code)
	} else {
		checkOpen(t, b, c.n, h)
	}
}

// Every row of a few calls, with books of every small size.
func TestP13_3AllShortRows(t *testing.T) {
	calls := []call{{false, 5}, {false, 3}, {false, 0}, {false, -1}, {true, 0}, {true, 1}, {true, 2}, {true, 3}}
	const length = 5
	all := 1
	for range length {
		all *= len(calls)
	}
	for most := -1; most <= 3; most++ {
		for number := range all {
			b, r := New(most), &rows{most: most}
			for rest, k := number, 0; k < length; rest, k = rest/len(calls), k+1 {
				play(t, b, r, calls[rest%len(calls)])
			}
			checkSame(t, b, r)
		}
	}
}

// Thrown calls, some of them wrong, held to the other hand's book behind every call.
func TestP13_3Thrown(t *testing.T) {
	for seed := range 40 {
		throw := dice(uint64(seed))
		most := []int{1, 2, 5, 16}[seed%4]
		b, r := New(most), &rows{most: most}
		wrong, span := wrongTimes(), []int{3, 10, 1 << 20, end + 1}[throw(4)]
		for range 150 {
			c := call{closes: throw(5) < 2}
			switch {
			case c.closes && throw(3) > 0 && len(r.list()) > 0:
				c.n = r.list()[throw(len(r.list()))]
			case c.closes:
				c.n = throw(len(r.all)+4) - 1
			case throw(6) == 0:
				c.n = wrong[throw(len(wrong))]
			default:
				c.n = throw(span)
			}
			play(t, b, r, c)
			checkSame(t, b, r)
		}
	}
}

// Many at once, closed forth, back and strewn.
func TestP13_3Many(t *testing.T) {
	const n = 20000
	for _, step := range []int{1, n - 1, 7919} { // each has no divisor in common with n
		b := New(n)
		for k := range n {
			checkOpen(t, b, k*31%n, k+1)
		}
		checkNoOpen(t, b, 0, errMany)
		checkList(t, b, upTo(1, n)...)
		checkLow(t, b, n, 0)
		for k := range n - 1 {
			h := k*step%n + 1
			checkAt(t, b, h, (h-1)*31%n)
			checkClose(t, b, h, api.OK)
			checkNoAt(t, b, h)
		}
		last := (n-1)*step%n + 1
		checkList(t, b, last)
		checkLow(t, b, n, (last-1)*31%n)
		checkOpen(t, b, 5, n+1)
	}
}
