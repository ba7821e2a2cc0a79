package alloc

import (
	"fmt"
	"math"
	"slices"
	"sort"
	"testing"

	"scarp/api"
)

// The chapter's numbers, of their own.
const (
	most    = 64
	errArg  = api.Errno(1)
	errFull = api.Errno(9)
	errNone = api.Errno(14)
)

// dice answers numbers, the same ones at each run.
func dice(seed uint64) func(n int) int {
	state := seed
	return func(n int) int {
		state = state*6364136223846793005 + 1442695040888963407
		return int((state >> 33) % uint64(n))
	}
}

func made(t *testing.T, zones, spare int) *Alloc {
	t.Helper()
	a, code := New(zones, spare)
	if code != api.OK || a == nil {
		t.Fatalf("New(%d, %d) is refused by %d", zones, spare, code)
	}
	return a
}

func checkTake(t *testing.T, a *Alloc, reserve bool, want int) {
	t.Helper()
	if zone, code := a.Take(reserve); zone != want || code != api.OK {
		t.Fatalf("Take(%v) = %d, %d, want %d, 0", reserve, zone, code, want)
	}
}

func checkNoTake(t *testing.T, a *Alloc, reserve bool) {
	t.Helper()
	if zone, code := a.Take(reserve); zone != 0 || code != errFull {
		t.Fatalf("Take(%v) = %d, %d, want 0, 9", reserve, zone, code)
	}
}

func checkFree(t *testing.T, a *Alloc, zone int, want api.Errno) {
	t.Helper()
	if code := a.Free(zone); code != want {
		t.Fatalf("Free(%d) = %d, want %d", zone, code, want)
	}
}

func checkMark(t *testing.T, a *Alloc, zone int, want api.Errno) {
	t.Helper()
	if code := a.Mark(zone); code != want {
		t.Fatalf("Mark(%d) = %d, want %d", zone, code, want)
	}
}

func checkWear(t *testing.T, a *Alloc, zone, want int) {
	t.Helper()
	if got := a.Wear(zone); got != want {
		t.Fatalf("Wear(%d) = %d, want %d", zone, got, want)
	}
}

// checkList holds the zones that are free to what should be, and their number too.
func checkList(t *testing.T, a *Alloc, want ...int) {
	t.Helper()
	if got := a.List(); !slices.Equal(got, want) {
		t.Fatalf("List = %v, want %v", got, want)
	}
	if got := a.Count(); got != len(want) {
		t.Fatalf("Count = %d, want %d", got, len(want))
	}
}

// checkWears holds the wear of every zone to what should be, and those about them to 0.
func checkWears(t *testing.T, a *Alloc, want ...int) {
	t.Helper()
	for zone, wear := range want {
		checkWear(t, a, zone, wear)
	}
	checkWear(t, a, -1, 0)
	checkWear(t, a, len(want), 0)
}

// wear gives a free zone more wear and leaves it free.
func wear(t *testing.T, a *Alloc, zone, times int) {
	t.Helper()
	for range times {
		checkMark(t, a, zone, api.OK)
		checkFree(t, a, zone, api.OK)
	}
}

// upTo is the numbers from one on, ahead of another one.
func upTo(from, end int) []int {
	var l []int
	for k := from; k < end; k++ {
		l = append(l, k)
	}
	return l
}

// told is all that can be asked without changing it.
func told(a *Alloc, zones int) string {
	var wears []int
	for zone := range zones {
		wears = append(wears, a.Wear(zone))
	}
	return fmt.Sprint(a.Count(), a.List(), wears)
}

// wrongZones are none of as many zones.
func wrongZones(zones int) []int {
	return []int{-1, -2, -zones, zones, zones + 1, 65, 100, 255, 256, -256, 1 << 20, 1 << 32, 1<<32 + 1, -1 << 32, math.MaxInt32, math.MaxInt, math.MinInt}
}

func TestP10_1New(t *testing.T) {
	for zones := 1; zones <= most; zones++ {
		for spare := range zones + 1 {
			a := made(t, zones, spare)
			checkList(t, a, upTo(0, zones)...)
			checkWears(t, a, make([]int, zones)...)
		}
	}
}

func TestP10_1NewRefuses(t *testing.T) {
	wrong := []int{0, -1, -2, -64, 65, 66, 128, 256 + 8, 1 << 20, 1 << 32, 1<<32 + 8, math.MaxInt, math.MinInt}
	var all [][2]int
	for _, zones := range wrong {
		for _, spare := range append([]int{0, 1, 8, 64, zones}, wrong...) {
			all = append(all, [2]int{zones, spare})
		}
	}
	for _, zones := range []int{1, 2, 8, 63, 64} {
		for _, spare := range []int{-1, -2, -zones, zones + 1, zones + 2, 65, 256, 1 << 32, -1 << 32, math.MaxInt, math.MinInt} {
			all = append(all, [2]int{zones, spare})
		}
	}
	for _, x := range all {
		if a, code := New(x[0], x[1]); a != nil || code != errArg {
			t.Errorf("New(%d, %d) = %v, %d, want nil, 1", x[0], x[1], a, code)
		}
	}
}

func TestP10_1Example(t *testing.T) {
	if a, code := New(1, 2); a != nil || code != errArg {
		t.Errorf("New(1, 2) = %v, %d", a, code)
	}
}

func TestP10_2TakeExample(t *testing.T) {
	a := made(t, 4, 1)
	for want := range 3 {
		checkTake(t, a, false, want)
	}
	checkNoTake(t, a, false)
	checkTake(t, a, true, 3)
}

// Without reserve as many zones stay as are spare; with it none stays.
func TestP10_2TakeToTheEnd(t *testing.T) {
	for zones := 1; zones <= most; zones++ {
		for spare := range zones + 1 {
			a := made(t, zones, spare)
			for k := range zones - spare {
				checkTake(t, a, false, k)
				checkList(t, a, upTo(k+1, zones)...)
			}
			checkNoTake(t, a, false)
			checkList(t, a, upTo(zones-spare, zones)...)
			for k := zones - spare; k < zones; k++ {
				checkTake(t, a, true, k)
				checkNoTake(t, a, false)
			}
			checkNoTake(t, a, true)
			checkNoTake(t, a, false)
			checkList(t, a)
			checkWears(t, a, make([]int, zones)...)
		}
	}
}

// One more than spare zones is enough, as many isn't, whichever they are.
func TestP10_2TakeAtTheSpare(t *testing.T) {
	a := made(t, 5, 2)
	checkMark(t, a, 0, api.OK)
	checkMark(t, a, 1, api.OK)
	checkTake(t, a, false, 2)
	checkNoTake(t, a, false)
	checkFree(t, a, 0, api.OK)
	checkTake(t, a, false, 3)
	checkNoTake(t, a, false)
	checkTake(t, a, true, 4)
	checkNoTake(t, a, false)
	checkTake(t, a, true, 0)
	checkNoTake(t, a, true)
	checkFree(t, a, 3, api.OK)
	checkFree(t, a, 4, api.OK)
	checkNoTake(t, a, false)
	checkFree(t, a, 0, api.OK)
	checkTake(t, a, false, 3)
}

// With reserve a zone is taken whether or not more are free than are spare, and the same one as without.
func TestP10_2TakeWithReserve(t *testing.T) {
	for _, spare := range []int{0, 1, 3, 6} {
		a := made(t, 6, spare)
		wear(t, a, 0, 1)
		wear(t, a, 3, 2)
		for _, want := range []int{1, 2, 4, 5, 0, 3} {
			checkTake(t, a, true, want)
		}
		checkNoTake(t, a, true)
	}
}

func TestP10_2TakeLeastWorn(t *testing.T) {
	wears := []int{3, 1, 4, 1, 5, 9, 2, 6, 5, 3, 0, 1}
	order := []int{10, 1, 3, 11, 6, 0, 9, 2, 4, 8, 7, 5}
	for _, reserve := range []bool{false, true} {
		a := made(t, len(wears), 0)
		for zone, times := range wears {
			wear(t, a, zone, times)
		}
		checkWears(t, a, wears...)
		left := upTo(0, len(wears))
		for _, want := range order {
			checkTake(t, a, reserve, want)
			left = slices.DeleteFunc(left, func(k int) bool { return k == want })
			checkList(t, a, left...)
		}
		checkNoTake(t, a, reserve)
		checkWears(t, a, wears...)
	}
}

// The least worn one may stand anywhere, and what is taken is passed over whatever its wear.
func TestP10_2TakeAnywhere(t *testing.T) {
	for zones := 2; zones <= most; zones++ {
		for one := range zones {
			a := made(t, zones, 0)
			for zone := range zones {
				if zone != one {
					wear(t, a, zone, 1)
				}
			}
			first := 0 // of the others
			if one == 0 {
				first = 1
			}
			checkTake(t, a, false, one)
			checkTake(t, a, false, first)
			checkWear(t, a, one, 0)
		}
	}
}

// A great wear is a number as any other one.
func TestP10_2TakeGreatWear(t *testing.T) {
	a := made(t, 3, 0)
	wear(t, a, 0, 70000)
	wear(t, a, 1, 65536)
	wear(t, a, 2, 65537)
	checkWears(t, a, 70000, 65536, 65537)
	checkTake(t, a, false, 1)
	checkTake(t, a, false, 2)
	checkTake(t, a, false, 0)
}

func TestP10_2Free(t *testing.T) {
	a := made(t, 4, 0)
	for want := range 4 {
		checkTake(t, a, false, want)
	}
	checkFree(t, a, 2, api.OK)
	checkList(t, a, 2)
	checkWears(t, a, 0, 0, 1, 0)
	checkTake(t, a, false, 2)
	checkWears(t, a, 0, 0, 1, 0)
	checkFree(t, a, 2, api.OK)
	checkWears(t, a, 0, 0, 2, 0)
	checkFree(t, a, 0, api.OK)
	checkList(t, a, 0, 2)
	checkWears(t, a, 1, 0, 2, 0)
	checkTake(t, a, false, 0)
	checkFree(t, a, 3, api.OK)
	checkFree(t, a, 0, api.OK)
	checkWears(t, a, 2, 0, 2, 1)
	checkTake(t, a, false, 3)
	checkTake(t, a, false, 0)
	checkTake(t, a, false, 2)
	checkNoTake(t, a, false)
}

func TestP10_2FreeExample(t *testing.T) {
	a := made(t, 4, 1)
	for want := range 3 {
		checkTake(t, a, false, want)
	}
	checkFree(t, a, 1, api.OK)
	checkFree(t, a, 1, errNone)
	checkWears(t, a, 0, 1, 0, 0)
	checkList(t, a, 1, 3)
}

// A zone that was marked is freed as one that was taken is.
func TestP10_2FreeOfMarked(t *testing.T) {
	a := made(t, 3, 1)
	for n := range 5 {
		checkWears(t, a, 0, n, 0)
		checkMark(t, a, 1, api.OK)
		checkWears(t, a, 0, n, 0)
		checkFree(t, a, 1, api.OK)
		checkFree(t, a, 1, errNone)
		checkList(t, a, 0, 1, 2)
	}
	checkTake(t, a, false, 0)
	checkTake(t, a, false, 2)
	checkFree(t, a, 2, api.OK)
	checkTake(t, a, false, 2)
	checkTake(t, a, true, 1)
	checkWears(t, a, 0, 5, 1)
}

func TestP10_2Mark(t *testing.T) {
	a := made(t, 4, 0)
	wear(t, a, 3, 2)
	checkMark(t, a, 0, api.OK)
	checkMark(t, a, 3, api.OK)
	checkMark(t, a, 0, errNone)
	checkList(t, a, 1, 2)
	checkWears(t, a, 0, 0, 0, 2)
	checkTake(t, a, false, 1)
	checkMark(t, a, 1, errNone)
	checkTake(t, a, false, 2)
	checkNoTake(t, a, false)
	checkNoTake(t, a, true)
	checkFree(t, a, 3, api.OK)
	checkFree(t, a, 0, api.OK)
	checkWears(t, a, 1, 0, 0, 3)
	checkTake(t, a, false, 0)
	checkTake(t, a, false, 3)
}

// Mark takes any zone that is free, the spare ones among them.
func TestP10_2MarkOfSpare(t *testing.T) {
	for _, zones := range []int{1, 2, 8, most} {
		a := made(t, zones, zones)
		checkNoTake(t, a, false)
		for zone := zones - 1; zone >= 0; zone-- {
			checkMark(t, a, zone, api.OK)
			checkList(t, a, upTo(0, zone)...)
		}
		checkNoTake(t, a, true)
		checkWears(t, a, make([]int, zones)...)
		for zone := range zones {
			checkFree(t, a, zone, api.OK)
			checkList(t, a, upTo(0, zone+1)...)
		}
	}
}

func TestP10_2Refuses(t *testing.T) {
	for _, zones := range []int{1, 2, 8, 63, most} {
		for spare := range zones + 1 {
			a := made(t, zones, spare)
			wear(t, a, zones-1, 1)
			wear(t, a, 0, 1)
			for free := zones; free >= 0; free-- {
				refuses(t, a, zones)
				if free > 0 {
					checkMark(t, a, free-1, api.OK)
				}
			}
			if zone, code := a.Take(true); zone != 0 || code != errFull {
				t.Fatalf("Take = %d, %d", zone, code)
			}
		}
	}
}

// refuses makes every call with a zone that must be refused, and holds that nothing changes.
func refuses(t *testing.T, a *Alloc, zones int) {
	t.Helper()
	before := told(a, zones)
	free := a.List()
	for _, zone := range wrongZones(zones) {
		if 0 <= zone && zone < zones {
			continue
		}
		checkFree(t, a, zone, errArg)
		checkMark(t, a, zone, errArg)
		checkWear(t, a, zone, 0)
	}
	for zone := range zones {
		if slices.Contains(free, zone) {
			checkFree(t, a, zone, errNone)
		} else {
			checkMark(t, a, zone, errNone)
		}
	}
	if len(free) == 0 {
		checkNoTake(t, a, false)
		checkNoTake(t, a, true)
	}
	if after := told(a, zones); after != before {
		t.Fatalf("a call that is refused changes %s to %s", before, after)
	}
}

// A Take that is refused takes none, and one behind it goes as if it had not been.
func TestP10_2TakeRefused(t *testing.T) {
	a := made(t, 3, 2)
	checkTake(t, a, false, 0)
	before := told(a, 3)
	for range 3 {
		checkNoTake(t, a, false)
	}
	if told(a, 3) != before {
		t.Error("a Take that is refused changes the allocator")
	}
	checkTake(t, a, true, 1)
	checkFree(t, a, 0, api.OK)
	checkNoTake(t, a, false)
	checkList(t, a, 0, 2)
	checkWears(t, a, 1, 0, 0)
}

// The nil Alloc and the zero one answer alike, and go on doing so.
func TestP10_3NilAndZero(t *testing.T) {
	for _, a := range []*Alloc{nil, {}} {
		for range 2 {
			checkNoTake(t, a, true)
			checkNoTake(t, a, false)
			for _, zone := range append(wrongZones(1), 0, 2, 63, 64) {
				checkFree(t, a, zone, errArg)
				checkMark(t, a, zone, errArg)
				checkWear(t, a, zone, 0)
			}
			checkList(t, a)
		}
	}
}

func TestP10_3Wear(t *testing.T) {
	a := made(t, most, 0)
	for zone := range most {
		wear(t, a, zone, zone%7)
	}
	for zone := range most {
		checkWear(t, a, zone, zone%7)
	}
	for _, zone := range wrongZones(most) {
		checkWear(t, a, zone, 0)
	}
}

// List and Count tell of a zone whatever it was taken by.
func TestP10_3List(t *testing.T) {
	a := made(t, most, 10)
	for _, zone := range []int{0, 63, 31, 32, 1} {
		checkMark(t, a, zone, api.OK)
	}
	checkTake(t, a, false, 2)
	checkTake(t, a, true, 3)
	checkList(t, a, slices.Concat(upTo(4, 31), upTo(33, 63))...)
	checkFree(t, a, 63, api.OK)
	checkFree(t, a, 3, api.OK)
	checkFree(t, a, 0, api.OK)
	checkList(t, a, slices.Concat([]int{0, 3}, upTo(4, 31), upTo(33, 64))...)
}

// Zones that are taken and freed in turns wear alike.
func TestP10_4WearsAlike(t *testing.T) {
	for _, zones := range []int{1, 2, 3, 8, 63, most} {
		for _, spare := range []int{0, zones / 2, zones - 1} {
			a := made(t, zones, spare)
			for turn := range 4*zones + 5 {
				checkTake(t, a, turn%3 == 0, turn%zones)
				checkFree(t, a, turn%zones, api.OK)
				wears := make([]int, zones)
				for zone := range wears {
					wears[zone] = a.Wear(zone)
				}
				if slices.Max(wears)-slices.Min(wears) > 1 {
					t.Fatalf("New(%d, %d): the wears %v behind turn %d", zones, spare, wears, turn)
				}
			}
		}
	}
}

// Many turns: no zone is taken that was not freed, and none is passed over.
func TestP10_4NoneTwice(t *testing.T) {
	throw := dice(104)
	a := made(t, 16, 3)
	var held []int
	for range 20000 {
		if throw(2) == 0 && len(held) > 0 {
			k := throw(len(held))
			checkFree(t, a, held[k], api.OK)
			held = slices.Delete(held, k, k+1)
			continue
		}
		zone, code := a.Take(throw(2) == 0)
		switch {
		case code != api.OK && 16-len(held) > 3:
			t.Fatalf("Take is refused by %d with %v taken", code, held)
		case code == api.OK && slices.Contains(held, zone):
			t.Fatalf("%d is taken twice, with %v taken", zone, held)
		case code == api.OK:
			held = append(held, zone)
		}
	}
}

func TestP10_4ListIsNew(t *testing.T) {
	a := made(t, 8, 0)
	checkTake(t, a, false, 0)
	checkTake(t, a, false, 1)
	first, second := a.List(), a.List()
	whole := first[:cap(first)]
	for i := range whole {
		whole[i] = -9
	}
	if !slices.Equal(second, upTo(2, 8)) {
		t.Errorf("two lists share: %v", second)
	}
	checkList(t, a, upTo(2, 8)...)
	kept := a.List()
	checkTake(t, a, false, 2)
	checkFree(t, a, 0, api.OK)
	if !slices.Equal(kept, upTo(2, 8)) {
		t.Errorf("what List returned turns to %v", kept)
	}
	checkList(t, a, 0, 3, 4, 5, 6, 7)
}

func TestP10_4StandApart(t *testing.T) {
	a, b := made(t, 4, 1), made(t, 4, 1)
	checkTake(t, a, false, 0)
	checkMark(t, a, 3, api.OK)
	checkFree(t, a, 0, api.OK)
	checkList(t, b, 0, 1, 2, 3)
	checkWears(t, b, 0, 0, 0, 0)
	checkTake(t, b, false, 0)
	checkTake(t, a, false, 1)
	checkList(t, a, 0, 2)
	checkList(t, b, 1, 2, 3)
}

// plan is an allocator of another hand: the free zones in the order in which they are to be taken.
type plan struct {
	zones, spare int
	queue        []int
	wears        map[int]int
}

func planned(zones, spare int) *plan {
	return &plan{zones: zones, spare: spare, queue: upTo(0, zones), wears: map[int]int{}}
}

func (p *plan) has(zone int) bool { return zone >= 0 && zone < p.zones }

func (p *plan) take(reserve bool) (int, api.Errno) {
	keep := p.spare
	if reserve {
		keep = 0
	}
	if len(p.queue) <= keep {
		return 0, errFull
	}
	zone := p.queue[0]
	p.queue = p.queue[1:]
	return zone, api.OK
}

func (p *plan) free(zone int) api.Errno {
	if !p.has(zone) {
		return errArg
	}
	if slices.Contains(p.queue, zone) {
		return errNone
	}
	p.wears[zone]++
	p.queue = append(slices.Clone(p.queue), zone)
	sort.Slice(p.queue, func(i, k int) bool {
		x, y := p.queue[i], p.queue[k]
		return p.wears[x]*most+x < p.wears[y]*most+y
	})
	return api.OK
}

func (p *plan) mark(zone int) api.Errno {
	if !p.has(zone) {
		return errArg
	}
	k := slices.Index(p.queue, zone)
	if k < 0 {
		return errNone
	}
	p.queue = slices.Delete(slices.Clone(p.queue), k, k+1)
	return api.OK
}

func (p *plan) check(t *testing.T, a *Alloc) {
	t.Helper()
	checkList(t, a, slices.Sorted(slices.Values(p.queue))...)
	for zone := -1; zone <= p.zones; zone++ {
		checkWear(t, a, zone, p.wears[zone])
	}
}

// step does one call to both. The calls have numbers: two Takes, then a Free and a Mark of every zone and of the two beside them.
func (p *plan) step(t *testing.T, a *Alloc, call int) {
	t.Helper()
	zone := (call-2)/2 - 1
	switch {
	case call < 2:
		got, code := a.Take(call == 1)
		if want, e := p.take(call == 1); got != want || code != e {
			t.Fatalf("Take(%v) = %d, %d, want %d, %d", call == 1, got, code, want, e)
		}
	case call%2 == 0:
		checkFree(t, a, zone, p.free(zone))
	default:
		checkMark(t, a, zone, p.mark(zone))
	}
}

// calls is how many numbers there are for step.
func (p *plan) calls() int { return 2 + 2*(p.zones+2) }

// play does the calls that the digits of a number tell, as many as there are steps.
func play(t *testing.T, zones, spare, number, steps int) {
	t.Helper()
	defer func() {
		if t.Failed() {
			t.Logf("New(%d, %d), the calls of %d", zones, spare, number)
		}
	}()
	a, p := made(t, zones, spare), planned(zones, spare)
	rest := number
	for range steps {
		p.step(t, a, rest%p.calls())
		rest /= p.calls()
	}
	p.check(t, a)
}

// Every row of a few calls to a few zones is held to the plan's.
func TestP10_2AllShortRows(t *testing.T) {
	for zones, steps := range map[int]int{1: 5, 2: 5, 3: 4} {
		for spare := range zones + 1 {
			rows := 1
			for range steps {
				rows *= planned(zones, spare).calls()
			}
			for number := range rows {
				play(t, zones, spare, number, steps)
			}
		}
	}
}

// Thrown calls to allocators of each size are held to the plan's, behind every call.
func TestP10_4Thrown(t *testing.T) {
	for seed := range 24 {
		throw := dice(uint64(seed))
		zones := []int{1, 2, 5, 8, 63, most}[seed%6]
		spare := throw(zones + 1)
		a, p := made(t, zones, spare), planned(zones, spare)
		full, refused := 0, 0
		for range 4000 {
			call := throw(p.calls())
			if throw(3) == 0 {
				call = throw(2)
			}
			p.step(t, a, call)
			p.check(t, a)
			if len(p.queue) == 0 {
				full++
			} else if len(p.queue) <= spare {
				refused++
			}
		}
		if full == 0 && refused == 0 {
			t.Errorf("the throws are one-sided: never as few zones free as %d", spare)
		}
	}
}
