package seglog

import (
	"bytes"
	"fmt"
	"math"
	"slices"
	"testing"

	"scarp/api"
	"scarp/zdev"
)

// The chapters' numbers, of their own.
const (
	blockSize = 64
	mostBytes = 40
	mostGroup = 40
	leastSize = 96
	mostSize  = 192
	leastDev  = 8
	mostDev   = 64
	errArg    = api.Errno(1)
	errBig    = api.Errno(7)
	errSpace  = api.Errno(9)
	errOff    = api.Errno(12)
	errBad    = api.Errno(13)
	errNone   = api.Errno(14)
)

// dice answers numbers, the same ones at each run.
func dice(seed uint64) func(n int) int {
	state := seed
	return func(n int) int {
		state = state*6364136223846793005 + 1442695040888963407
		return int((state >> 33) % uint64(n))
	}
}

func made(t testing.TB, zones, size int) *zdev.Dev {
	t.Helper()
	d, e := zdev.New(api.Geometry{Zones: zones, Size: size})
	if e != api.OK {
		t.Fatalf("New(%d, %d): %d", zones, size, e)
	}
	return d
}

func opened(t testing.TB, d *zdev.Dev, low, high int) *Log {
	t.Helper()
	l, e := Open(d, low, high)
	if e != api.OK || l == nil || l.Dead() {
		t.Fatalf("Open(d, %d, %d): %v, %d", low, high, l, e)
	}
	return l
}

// fresh is an empty log in zones 0 to high of a new device.
func fresh(t testing.TB, high, size int) (*Log, *zdev.Dev) {
	t.Helper()
	d := made(t, max(leastDev, high+1), size)
	return opened(t, d, 0, high), d
}

// record is what record k of a log is: of each length from 0 to 40, and no two of the longer ones alike.
func record(k int) []byte {
	text := fmt.Appendf(nil, "%d is a record of a log", k)
	return slices.Repeat(text, 4)[:k*11%(mostBytes+1)]
}

// records are those of the numbers from k on.
func records(k, n int) [][]byte {
	var l [][]byte
	for i := range n {
		l = append(l, record(k+i))
	}
	return l
}

// sheet is a log of another hand: a list from which nothing is taken.
type sheet struct {
	first int
	all   [][]byte
}

func (s sheet) with(l ...[]byte) sheet {
	s.all = append(slices.Clone(s.all), l...)
	return s
}

func (s sheet) from(k int) sheet {
	s.first = k
	return s
}

func (s sheet) live() int { return len(s.all) - s.first }

// differs tells what a log has that the sheet has not, or nothing.
func (s sheet) differs(l *Log) string {
	if l.First() != s.first || l.Len() != len(s.all) {
		return fmt.Sprintf("First %d, Len %d, want %d and %d", l.First(), l.Len(), s.first, len(s.all))
	}
	for k := s.first; k < len(s.all); k++ {
		if r, e := l.Read(k); e != api.OK || !bytes.Equal(r, s.all[k]) {
			return fmt.Sprintf("Read(%d): %q, %d, want %q", k, r, e, s.all[k])
		}
	}
	for _, k := range []int{math.MinInt, -1, s.first - 1, len(s.all), len(s.all) + 1, math.MaxInt} {
		if r, e := l.Read(k); e != errNone || r != nil {
			return fmt.Sprintf("Read(%d): %q, %d, want none", k, r, e)
		}
	}
	return ""
}

func check(t testing.TB, what string, l *Log, s sheet) {
	t.Helper()
	if wrong := s.differs(l); wrong != "" {
		t.Fatalf("%s: %s", what, wrong)
	}
}

// add appends so many records to a log and its sheet.
func add(t testing.TB, l *Log, s sheet, n int) sheet {
	t.Helper()
	r := records(len(s.all), n)
	if k, e := l.Append(r...); e != api.OK || k != len(s.all) {
		t.Fatalf("Append of %d to %d from %d on: %d, %d", n, len(s.all), s.first, k, e)
	}
	return s.with(r...)
}

// cutTo trims a log and its sheet.
func cutTo(t testing.TB, l *Log, s sheet, k int) sheet {
	t.Helper()
	if e := l.Trim(k); e != api.OK {
		t.Fatalf("Trim(%d) of %d to %d: %d", k, s.first, len(s.all), e)
	}
	return s.from(k)
}

func checkCode(t testing.TB, what string, got, want api.Errno) {
	t.Helper()
	if got != want {
		t.Errorf("%s: %d, want %d", what, got, want)
	}
}

// checkNoAppend appends what is refused.
func checkNoAppend(t testing.TB, what string, l *Log, want api.Errno, r ...[]byte) {
	t.Helper()
	if k, e := l.Append(r...); k != 0 || e != want {
		t.Errorf("%s: Append: %d, %d, want 0, %d", what, k, e, want)
	}
}

// image is the blocks of a device, zone by zone.
func image(t testing.TB, d *zdev.Dev) [][][]byte {
	t.Helper()
	zones := make([][][]byte, d.Geometry().Zones)
	for k := range zones {
		n, _ := d.Pointer(k)
		for at := range n {
			p, e := d.Read(k, at)
			if e != api.OK {
				t.Fatalf("Read(%d, %d): %d", k, at, e)
			}
			zones[k] = append(zones[k], p)
		}
	}
	return zones
}

// device is a new one with the blocks of an image, all of them durable.
func device(t testing.TB, size int, zones [][][]byte) *zdev.Dev {
	t.Helper()
	d := made(t, len(zones), size)
	for k, blocks := range zones {
		for _, p := range blocks {
			if _, e := d.Append(k, p); e != api.OK {
				t.Fatalf("Append(%d): %d", k, e)
			}
		}
	}
	if e := d.Flush(); e != api.OK {
		t.Fatalf("Flush: %d", e)
	}
	return d
}

// room is how many records the chapter promises room for.
func room(zones, size int) int { return (zones - 1) * (size - 8) / 2 }

func texts(l ...string) [][]byte {
	var out [][]byte
	for _, s := range l {
		out = append(out, []byte(s))
	}
	return out
}

func TestP18_1OpenRefuses(t *testing.T) {
	d := made(t, 8, 96)
	d.Cut(0) // no op is to be asked for
	type zones struct{ low, high int }
	for _, z := range []zones{
		{-1, 0}, {-1, 7}, {-1, 8}, {-5, -3}, {0, 0}, {3, 3}, {7, 7}, {4, 3}, {7, 0}, {0, -1}, {3, 8}, {0, 8}, {7, 8}, {8, 9}, {9, 8},
		{math.MinInt, 0}, {0, math.MinInt}, {math.MinInt, math.MaxInt}, {math.MaxInt, math.MinInt}, {0, math.MaxInt}, {math.MaxInt, 0},
		{math.MaxInt - 1, math.MaxInt}, {math.MinInt, math.MinInt + 1}, {math.MaxInt, math.MaxInt},
	} {
		for _, on := range []*zdev.Dev{d, nil, {}} {
			if l, e := Open(on, z.low, z.high); l != nil || e != errArg {
				t.Errorf("Open(d, %d, %d): %v, %d", z.low, z.high, l, e)
			}
		}
	}
	for _, on := range []*zdev.Dev{nil, {}} {
		if l, e := Open(on, 0, 1); l != nil || e != errArg {
			t.Errorf("Open of no device: %v, %d", l, e)
		}
	}
	if d.Ops() != 0 || d.Off() {
		t.Errorf("%d ops", d.Ops())
	}
}

// Zones that may not be are refused ahead of what stands in them.
func TestP18_1OpenRefusesInOrder(t *testing.T) {
	zones := make([][][]byte, 8)
	zones[3] = [][]byte{make([]byte, blockSize)}
	d := device(t, 96, zones)
	for _, z := range [][2]int{{-1, 3}, {3, 3}, {3, 8}} {
		if l, e := Open(d, z[0], z[1]); l != nil || e != errArg {
			t.Errorf("Open(d, %d, %d): %v, %d", z[0], z[1], l, e)
		}
	}
	d.Cut(0)
	d.Flush()
	for _, z := range [][2]int{{3, 4}, {0, 3}, {0, 7}} {
		if l, e := Open(d, z[0], z[1]); l != nil || e != errBad {
			t.Errorf("Open(d, %d, %d) without power: %v, %d", z[0], z[1], l, e)
		}
	}
	for _, z := range [][2]int{{0, 2}, {4, 7}} {
		if l, e := Open(d, z[0], z[1]); l != nil || e != errOff {
			t.Errorf("Open(d, %d, %d) without power: %v, %d", z[0], z[1], l, e)
		}
	}
}

func TestP18_1OpenEmpty(t *testing.T) {
	for _, zones := range []int{leastDev, mostDev} {
		for _, size := range []int{leastSize, mostSize} {
			for _, z := range [][2]int{{0, 1}, {0, zones - 1}, {3, 4}, {2, 6}, {zones - 2, zones - 1}} {
				d := made(t, zones, size)
				l := opened(t, d, z[0], z[1])
				check(t, "empty", l, sheet{})
				for k, blocks := range image(t, d) {
					if len(blocks) != 0 && (k < z[0] || k > z[1]) {
						t.Errorf("zone %d isn't its own", k)
					}
				}
				check(t, "again", opened(t, d, z[0], z[1]), sheet{})
				check(t, "crashed", opened(t, d.Crash(nil, []int{1}), z[0], z[1]), sheet{})
				s := add(t, l, sheet{}, mostGroup)
				check(t, "used", l, s)
				check(t, "used, again", opened(t, d.Crash(nil, nil), z[0], z[1]), s)
			}
		}
	}
}

func TestP18_1OpenWithoutPower(t *testing.T) {
	d := made(t, 8, 96)
	l := opened(t, d, 2, 4)
	add(t, l, sheet{}, 5)
	d.Cut(0)
	for _, z := range [][2]int{{2, 4}, {5, 7}, {0, 1}} {
		if l, e := Open(d, z[0], z[1]); l != nil || e != errOff {
			t.Errorf("Open(d, %d, %d): %v, %d", z[0], z[1], l, e)
		}
	}
}

// What is not durable ahead of Open is so behind it.
func TestP18_1OpenIsDurable(t *testing.T) {
	l, d := fresh(t, 3, 96)
	s := sheet{}
	for k := range 12 {
		s = add(t, l, s, 1+k*7%mostGroup)
		s = cutTo(t, l, s, s.first+s.live()*3/4)
	}
	soft := made(t, 8, 96)
	for k, blocks := range image(t, d) {
		for _, p := range blocks {
			soft.Append(k, p)
		}
	}
	check(t, "opened", opened(t, soft, 0, 3), s)
	check(t, "crashed", opened(t, soft.Crash(nil, nil), 0, 3), s)
}

func TestP18_2Example(t *testing.T) {
	l, _ := fresh(t, 1, 96)
	if k, e := l.Append([]byte("a"), []byte("b")); k != 0 || e != api.OK {
		t.Errorf("first: %d, %d", k, e)
	}
	if k, e := l.Append([]byte("c")); k != 2 || e != api.OK {
		t.Errorf("second: %d, %d", k, e)
	}
	check(t, "both", l, sheet{all: texts("a", "b", "c")})
}

func TestP18_2AppendRefuses(t *testing.T) {
	l, d := fresh(t, 2, 96)
	s := add(t, l, sheet{}, 3)
	was, ops := image(t, d), d.Ops()
	checkNoAppend(t, "none", l, errArg)
	checkNoAppend(t, "nil", l, errArg, [][]byte(nil)...)
	checkNoAppend(t, "empty list", l, errArg, [][]byte{}...)
	long := make([]byte, mostBytes+1)
	for _, n := range []int{mostGroup + 1, mostGroup + 2, 300, 5000} {
		checkNoAppend(t, fmt.Sprint(n), l, errBig, records(0, n)...)
		checkNoAppend(t, fmt.Sprint(n, " and long"), l, errBig, append(records(0, n-1), long)...)
	}
	for _, n := range []int{mostBytes + 1, mostBytes + 2, blockSize, 70000} {
		p := make([]byte, n)
		checkNoAppend(t, fmt.Sprint(n, " bytes"), l, errBig, p)
		checkNoAppend(t, fmt.Sprint(n, " bytes, last"), l, errBig, append(records(0, mostGroup-1), p)...)
		checkNoAppend(t, fmt.Sprint(n, " bytes, first"), l, errBig, append([][]byte{p}, records(0, 2)...)...)
	}
	check(t, "refused", l, s)
	if d.Ops() != ops || fmt.Sprint(image(t, d)) != fmt.Sprint(was) {
		t.Error("what was refused changed the device")
	}
	s = add(t, l, s, mostGroup)
	check(t, "greatest group", l, s)
}

func TestP18_2RecordsOfAllLengths(t *testing.T) {
	l, d := fresh(t, 2, 96)
	var all [][]byte
	for n := range mostBytes + 1 {
		for _, fill := range []byte{0, 0x55, 0xff} {
			all = append(all, bytes.Repeat([]byte{fill}, n))
		}
	}
	all = append(all, nil, []byte{})
	s := sheet{}
	for _, r := range all {
		if k, e := l.Append(r); e != api.OK || k != len(s.all) {
			t.Fatalf("%d bytes: %d, %d", len(r), k, e)
		}
		s = s.with(r)
		if s.live() > 30 {
			s = cutTo(t, l, s, s.first+20)
		}
		check(t, "there", l, s)
	}
	check(t, "again", opened(t, d.Crash(nil, []int{1}), 0, 2), s)
}

// Every number of zones and every size has the room that is promised, whatever stands there.
func TestP18_2RoomOfEachGeometry(t *testing.T) {
	for zones := 2; zones <= mostDev; zones++ {
		for size := leastSize; size <= mostSize; size++ {
			r := ring{zones: zones, size: size}
			if most := room(zones, size); !r.holds(most) {
				t.Errorf("%d zones of %d: no room for %d", zones, size, most)
			}
			if r.span(0) != 1 || r.span(size-1) != 1 || r.span(size) != 2 {
				t.Errorf("%d zones of %d: %d, %d, %d", zones, size, r.span(0), r.span(size-1), r.span(size))
			}
			if r.holds(zones * size) {
				t.Errorf("%d zones of %d: there is no end of room", zones, size)
			}
		}
	}
}

// fillUp appends up to the promised room in groups of at most n.
func fillUp(t testing.TB, l *Log, s sheet, most, n int) sheet {
	t.Helper()
	for s.live() < most {
		s = add(t, l, s, min(n, most-s.live()))
	}
	return s
}

// overfill appends groups of n until there is no space, and holds the log to what it was then.
func overfill(t testing.TB, l *Log, d *zdev.Dev, s sheet, n int) sheet {
	t.Helper()
	for range d.Geometry().Zones * d.Geometry().Size {
		ops := d.Ops()
		r := records(len(s.all), n)
		k, e := l.Append(r...)
		if e == api.OK {
			s = s.with(r...)
			continue
		}
		if e != errSpace || k != 0 || l.Dead() || d.Ops() != ops {
			t.Fatalf("past the room: %d, %d, dead %t, %d ops", k, e, l.Dead(), d.Ops()-ops)
		}
		check(t, "full", l, s)
		return s
	}
	t.Fatal("the log has no end")
	return s
}

func TestP18_2RoomAndPastIt(t *testing.T) {
	t.Parallel()
	for _, size := range []int{leastSize, 97, 131, mostSize} {
		for _, zones := range []int{2, 3, 4, 5, 8, 11} {
			for _, n := range []int{1, 7, mostGroup} {
				l, d := fresh(t, zones-1, size)
				s := fillUp(t, l, sheet{}, room(zones, size), n)
				check(t, "at the promised room", l, s)
				s = overfill(t, l, d, s, n)
				s = overfill(t, l, d, s, 1)
				check(t, "opened again", opened(t, d.Crash([]int{1}, []int{1}), 0, zones-1), s)
				// The refused group fits as soon as there is room again.
				s = cutTo(t, l, s, s.first+n)
				s = add(t, l, s, n)
				s = cutTo(t, l, s, len(s.all))
				check(t, "trimmed", l, s)
				s = fillUp(t, l, s, room(zones, size), mostGroup)
				check(t, "filled again", l, s)
			}
		}
	}
}

// All zones of the greatest device.
func TestP18_2GreatestLog(t *testing.T) {
	t.Parallel()
	l, d := fresh(t, mostDev-1, mostSize)
	most := room(mostDev, mostSize)
	s := fillUp(t, l, sheet{}, most, mostGroup)
	check(t, "at the promised room", l, s)
	s = overfill(t, l, d, s, mostGroup)
	for range 30 {
		s = cutTo(t, l, s, s.first+s.live()-most+1)
		s = add(t, l, s, 1)
		s = cutTo(t, l, s, s.first+s.live()/9)
		s = fillUp(t, l, s, most, mostGroup)
	}
	check(t, "round and round", l, s)
	l = opened(t, d.Crash([]int{1}, []int{1}), 0, mostDev-1)
	check(t, "again", l, s)
	s = cutTo(t, l, s, len(s.all))
	check(t, "and on", l, fillUp(t, l, s, most, mostGroup))
}

// The first error that applies is told: no records, too many or too long ones, no power, no space.
func TestP18_2ErrorsInOrder(t *testing.T) {
	long := make([]byte, mostBytes+1)
	l, d := fresh(t, 1, 96)
	s := overfill(t, l, d, sheet{}, 1)
	checkNoAppend(t, "full", l, errArg)
	checkNoAppend(t, "full", l, errBig, records(0, mostGroup+1)...)
	checkNoAppend(t, "full", l, errBig, long)
	checkNoAppend(t, "full", l, errSpace, record(0))
	d.Cut(0)
	checkNoAppend(t, "full, the power is going off", l, errSpace, record(0)) // no op is needed to tell
	if l.Dead() {
		t.Error("dead of no op")
	}
	checkCode(t, "Trim", l.Trim(s.first+1), errOff)
	checkDead(t, "dead and full", l, s)
}

// checkDead holds a dead log to what each of its calls answers.
func checkDead(t testing.TB, what string, l *Log, s sheet) {
	t.Helper()
	if !l.Dead() {
		t.Errorf("%s: not dead", what)
	}
	for range 2 {
		checkNoAppend(t, what, l, errArg)
		checkNoAppend(t, what, l, errBig, records(0, mostGroup+1)...)
		checkNoAppend(t, what, l, errBig, make([]byte, mostBytes+1))
		checkNoAppend(t, what, l, errOff, nil)
		checkNoAppend(t, what, l, errOff, records(0, mostGroup)...)
		for _, k := range []int{math.MinInt, -1, s.first - 1, len(s.all) + 1, math.MaxInt} {
			checkCode(t, fmt.Sprint(what, ": Trim ", k), l.Trim(k), errNone)
		}
		for _, k := range []int{s.first, s.first + s.live()/2, len(s.all)} {
			checkCode(t, fmt.Sprint(what, ": Trim ", k), l.Trim(k), errOff)
		}
		check(t, what, l, s)
	}
}

func TestP18_2Dead(t *testing.T) {
	for _, ops := range []int{0, 1, 2} {
		l, d := fresh(t, 2, 96)
		s := cutTo(t, l, add(t, l, sheet{}, 9), 4)
		if l.Dead() {
			t.Fatal("dead from the start")
		}
		d.Cut(ops)
		checkNoAppend(t, fmt.Sprint("after ", ops), l, errOff, records(9, 2)...)
		checkDead(t, fmt.Sprint("Append after ", ops), l, s)

		l, d = fresh(t, 2, 96)
		s = cutTo(t, l, add(t, l, sheet{}, 9), 4)
		d.Cut(min(ops, 1))
		checkCode(t, fmt.Sprint("Trim after ", ops), l.Trim(6), errOff)
		checkDead(t, fmt.Sprint("Trim after ", ops), l, s)
	}
}

// A log doesn't die of the power as such, nor of calls that are refused ahead of it: only of an op.
func TestP18_2DeadOfAnOpOnly(t *testing.T) {
	d := made(t, 8, 96)
	l, other := opened(t, d, 0, 2), opened(t, d, 3, 5)
	s := add(t, l, sheet{}, 3)
	d.Cut(0)
	checkNoAppend(t, "the other", other, errOff, record(0))
	if l.Dead() || !other.Dead() {
		t.Errorf("dead: %t, %t", l.Dead(), other.Dead())
	}
	checkNoAppend(t, "none", l, errArg)
	checkNoAppend(t, "long", l, errBig, make([]byte, mostBytes+1))
	checkCode(t, "Trim", l.Trim(4), errNone)
	check(t, "without power", l, s)
	if l.Dead() {
		t.Error("dead of no op")
	}
	checkNoAppend(t, "off", l, errOff, record(3))
	checkDead(t, "off", l, s)
}

func TestP18_3Example(t *testing.T) {
	l, _ := fresh(t, 1, 96)
	l.Append([]byte("a"), []byte("b"))
	checkCode(t, "Trim", l.Trim(1), api.OK)
	if r, e := l.Read(1); string(r) != "b" || e != api.OK {
		t.Errorf("Read(1): %q, %d", r, e)
	}
	check(t, "trimmed", l, sheet{first: 1, all: texts("a", "b")})
	l, _ = fresh(t, 2, 96)
	s := add(t, l, add(t, l, sheet{}, mostGroup), 3)
	checkCode(t, "Trim of 43", l.Trim(44), errNone)
	check(t, "43", l, s)
}

func TestP18_3TrimRefuses(t *testing.T) {
	l, d := fresh(t, 2, 96)
	wrong := func(s sheet) {
		t.Helper()
		ops := d.Ops()
		for _, k := range []int{math.MinInt, -1, s.first - 1, len(s.all) + 1, len(s.all) + 40, math.MaxInt} {
			if k != s.first {
				checkCode(t, fmt.Sprintf("Trim(%d) of %d to %d", k, s.first, len(s.all)), l.Trim(k), errNone)
			}
		}
		check(t, "refused", l, s)
		if d.Ops() != ops || l.Dead() {
			t.Error("what was refused did something")
		}
	}
	s := sheet{}
	wrong(s)
	s = cutTo(t, l, s, 0)
	wrong(s)
	s = add(t, l, s, 12)
	wrong(s)
	for _, k := range []int{0, 1, 1, 7, 11, 12, 12} {
		s = cutTo(t, l, s, k)
		wrong(s)
		check(t, "again", opened(t, d.Crash(nil, nil), 0, 2), s)
	}
	s = add(t, l, s, 1)
	wrong(s)
	check(t, "again", opened(t, d.Crash(nil, nil), 0, 2), s)
}

// Each way to trim a log of a few groups to a few places.
func TestP18_3TrimByTwo(t *testing.T) {
	for _, n := range [][]int{{1}, {2}, {1, 1}, {3, 2}, {2, 5, 1}} {
		total := 0
		for _, k := range n {
			total += k
		}
		for a := range total + 1 {
			for b := a; b <= total; b++ {
				l, d := fresh(t, 1, 96)
				s := sheet{}
				for _, k := range n {
					s = add(t, l, s, k)
				}
				s = cutTo(t, l, cutTo(t, l, s, a), b)
				check(t, "trimmed", l, s)
				l = opened(t, d.Crash(nil, nil), 0, 1)
				check(t, "again", l, s)
				check(t, "on", l, add(t, l, s, 2))
			}
		}
	}
}

// A zone is freed as soon as none of its records is left.
func TestP18_3TrimFreesZones(t *testing.T) {
	l, d := fresh(t, 7, 96)
	s := fillUp(t, l, sheet{}, 3*95, mostGroup)
	inUse := func() int {
		n := 0
		for _, blocks := range image(t, d) {
			n += min(len(blocks), 1)
		}
		return n
	}
	if n := inUse(); n != 3 {
		t.Fatalf("%d zones of 285 records", n)
	}
	for _, step := range []struct{ k, want int }{{94, 4}, {95, 3}, {189, 3}, {190, 2}, {285, 1}} {
		s = cutTo(t, l, s, step.k)
		if n := inUse(); n != step.want {
			t.Errorf("%d zones from record %d on, want %d", n, step.k, step.want)
		}
	}
	check(t, "trimmed", l, s)
}

func TestP18_5NilAndZero(t *testing.T) {
	for _, l := range []*Log{nil, {}} {
		if l.First() != 0 || l.Len() != 0 || !l.Dead() {
			t.Errorf("%d, %d, %t", l.First(), l.Len(), l.Dead())
		}
		long := make([]byte, mostBytes+1)
		for range 2 {
			checkNoAppend(t, "none", l, errArg)
			checkNoAppend(t, "nil", l, errArg, [][]byte(nil)...)
			checkNoAppend(t, "empty", l, errArg, [][]byte{}...)
			checkNoAppend(t, "long", l, errBig, long)
			checkNoAppend(t, "long behind short ones", l, errBig, nil, record(1), long)
			checkNoAppend(t, "many", l, errBig, make([][]byte, mostGroup+1)...)
			checkNoAppend(t, "many and long", l, errBig, append(make([][]byte, mostGroup), long)...)
			checkNoAppend(t, "one", l, errOff, []byte("x"))
			checkNoAppend(t, "one of nothing", l, errOff, nil)
			checkNoAppend(t, "forty", l, errOff, make([][]byte, mostGroup)...)
			for _, k := range []int{math.MinInt, -1, 0, 1, 40, math.MaxInt} {
				if r, e := l.Read(k); r != nil || e != errNone {
					t.Errorf("Read(%d): %q, %d", k, r, e)
				}
				want := errNone
				if k == 0 {
					want = errOff
				}
				checkCode(t, fmt.Sprintf("Trim(%d)", k), l.Trim(k), want)
			}
			if l.First() != 0 || l.Len() != 0 || !l.Dead() {
				t.Errorf("then: %d, %d, %t", l.First(), l.Len(), l.Dead())
			}
		}
	}
}

// What is handed in is neither changed nor kept.
func TestP18_6ArgumentsStay(t *testing.T) {
	l, d := fresh(t, 1, 96)
	whole := []byte("one record and what stands behind it......................")
	list := make([][]byte, 3, 6)
	list[0], list[1], list[2] = whole[:10], nil, whole[20:30:40]
	spare := list[:6]
	spare[3], spare[4], spare[5] = []byte("x"), nil, []byte("y")
	wasBytes, wasList := string(whole), fmt.Sprintf("%q", spare)
	if _, e := l.Append(list...); e != api.OK {
		t.Fatal(e)
	}
	if string(whole) != wasBytes || fmt.Sprintf("%q", spare) != wasList {
		t.Error("an argument was changed")
	}
	s := sheet{all: texts(wasBytes[:10], "", wasBytes[20:30])}
	for i := range whole {
		whole[i] = '#'
	}
	list[1] = whole
	check(t, "here", l, s)
	check(t, "again", opened(t, d.Crash(nil, nil), 0, 1), s)
}

// What Read returned is the caller's.
func TestP18_6ResultsAreNew(t *testing.T) {
	l, d := fresh(t, 1, 96)
	s := add(t, l, sheet{}, 20)
	for k := range 20 {
		one, _ := l.Read(k)
		two, _ := l.Read(k)
		one = one[:cap(one)]
		for i := range one {
			one[i] ^= 0xff
		}
		if !bytes.Equal(two, s.all[k]) {
			t.Errorf("Read(%d): two results share memory", k)
		}
	}
	check(t, "here", l, s)
	check(t, "again", opened(t, d.Crash(nil, nil), 0, 1), s)
	s = cutTo(t, l, s, 19)
	s = fillUp(t, l, s, 44, mostGroup)
	check(t, "on", l, s)
}

// Asking changes nothing.
func TestP18_6AskingChangesNothing(t *testing.T) {
	l, d := fresh(t, 2, 96)
	s := cutTo(t, l, add(t, l, sheet{}, 30), 11)
	was, ops := fmt.Sprint(image(t, d)), d.Ops()
	for range 3 {
		check(t, "asked", l, s)
		if l.Dead() {
			t.Error("dead")
		}
	}
	if fmt.Sprint(image(t, d)) != was || d.Ops() != ops {
		t.Error("asking did something to the device")
	}
}

// A record is the same from its Append to its Trim, wherever it is moved to.
func TestP18_6RecordsRemain(t *testing.T) {
	t.Parallel()
	for _, zones := range []int{2, 3, 4, 7} {
		l, d := fresh(t, zones-1, 96)
		s := add(t, l, sheet{}, room(zones, 96)%mostGroup+1)
		for k := range 400 {
			n := 1 + k*13%mostGroup
			for s.live()+n > room(zones, 96) {
				s = cutTo(t, l, s, s.first+1+k%s.live())
			}
			s = add(t, l, s, n)
			check(t, "there", l, s)
			if k%37 == 36 {
				l = opened(t, d, 0, zones-1)
				check(t, "again", l, s)
			}
		}
	}
}

// Appended to and trimmed for ever, a log goes round and round through its zones.
func TestP18_2ForEver(t *testing.T) {
	sizes := map[string]func(k int) int{
		"one":       func(int) int { return 1 },
		"forty":     func(int) int { return mostGroup },
		"all sizes": func(k int) int { return 1 + k*17%mostGroup },
	}
	keeps := map[string]func(most, k int) int{
		"nothing":    func(int, int) int { return 0 },
		"one":        func(int, int) int { return 1 },
		"all it can": func(most, _ int) int { return most },
		"changing":   func(most, k int) int { return k * 29 % (most + 1) },
	}
	for _, zones := range []int{2, 3, 5} {
		for of, size := range sizes {
			for kept, keep := range keeps {
				t.Run(fmt.Sprint(zones, " zones, groups of ", of, ", keeping ", kept), func(t *testing.T) {
					t.Parallel()
					goRound(t, zones, size, keep)
				})
			}
		}
	}
}

func goRound(t *testing.T, zones int, size func(int) int, keep func(most, k int) int) {
	l, d := fresh(t, zones-1, 96)
	s, most := sheet{}, room(zones, 96)
	used := make([]int, zones)
	for k := range 600 {
		n := min(size(k), most)
		if left := min(keep(most, k), most-n); s.live() > left {
			s = cutTo(t, l, s, len(s.all)-left)
		}
		s = add(t, l, s, n)
		for z := range zones {
			if n, _ := d.Pointer(z); n == 0 {
				used[z]++
			}
		}
		if k%50 == 49 {
			check(t, "there", l, s)
			check(t, "crashed", opened(t, d.Crash(nil, []int{1}), 0, zones-1), s)
		}
		if k%110 == 109 {
			l = opened(t, d, 0, zones-1)
			check(t, "again", l, s)
		}
	}
	for z, n := range used {
		if n == 0 || n == 600 {
			t.Errorf("zone %d is used always or never: empty %d times", z, n)
		}
	}
	s = cutTo(t, l, s, len(s.all))
	fillUp(t, l, s, most, 1)
}

// Two logs in zones of their own of one device don't know of each other.
func TestP18_6LogsStandApart(t *testing.T) {
	t.Parallel()
	throw := dice(7)
	d := made(t, 8, 96)
	zones := [2][2]int{{0, 2}, {3, 7}}
	var logs [2]*Log
	var sheets [2]sheet
	for i, z := range zones {
		logs[i] = opened(t, d, z[0], z[1])
	}
	for step := range 900 {
		i := throw(2)
		z, other := zones[i], zones[1-i]
		before := fmt.Sprint(image(t, d)[other[0] : other[1]+1])
		most := room(z[1]-z[0]+1, 96)
		switch n := 1 + throw(mostGroup); {
		case throw(20) == 0:
			logs[i] = opened(t, d, z[0], z[1])
		case sheets[i].live()+n <= most && throw(3) > 0:
			sheets[i] = add(t, logs[i], sheets[i], n)
		default:
			sheets[i] = cutTo(t, logs[i], sheets[i], sheets[i].first+throw(sheets[i].live()+1))
		}
		if fmt.Sprint(image(t, d)[other[0]:other[1]+1]) != before {
			t.Fatalf("step %d: log %d changed the zones of the other", step, i)
		}
		if step%10 == 0 {
			check(t, "log 0", logs[0], sheets[0])
			check(t, "log 1", logs[1], sheets[1])
		}
		if throw(40) == 0 {
			d = d.Crash([]int{throw(99), throw(99)}, []int{throw(2), throw(2), 1})
			for _, i := range []int{1, 0} {
				logs[i] = opened(t, d, zones[i][0], zones[i][1])
				check(t, "crashed", logs[i], sheets[i])
			}
		}
	}
}
