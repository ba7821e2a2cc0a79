package extmap

import (
	"bytes"
	"encoding/binary"
	"fmt"
	"math"
	"slices"
	"testing"

	"scarp/api"
)

// The chapter's numbers, of their own.
const (
	size     = 40
	most     = 1 << 20 // blocks of a map
	end      = 1 << 40 // the last time
	errArg   = api.Errno(1)
	errRange = api.Errno(2)
	errLen   = api.Errno(3)
	errTime  = api.Errno(11)
)

// dice answers numbers, the same ones at each run.
func dice(seed uint64) func(n int) int {
	state := seed
	return func(n int) int {
		state = state*6364136223846793005 + 1442695040888963407
		return int((state >> 33) % uint64(n))
	}
}

// data is 40 bytes, none of them 0, other ones for each block and time.
func data(lba, time int) []byte {
	b := make([]byte, size)
	for i := range b {
		b[i] = byte(lba*31+time*17+i*7)%255 + 1
	}
	binary.LittleEndian.PutUint64(b[8:], uint64(lba)|1<<63)
	binary.LittleEndian.PutUint64(b[24:], uint64(time)|1<<63)
	return b
}

func zeros() []byte { return make([]byte, size) }

func x(first, n int) api.Extent { return api.Extent{First: first, Len: n} }

// tx writes some blocks at a time.
func tx(time int, blocks ...int) api.Tx {
	t := api.Tx{Time: time}
	for _, lba := range blocks {
		t.Puts = append(t.Puts, api.Put{LBA: lba, Data: data(lba, time)})
	}
	return t
}

func made(t *testing.T, blocks int, l ...api.Tx) *Map {
	t.Helper()
	m, code := New(blocks)
	if code != api.OK || m == nil {
		t.Fatalf("New(%d) is refused by %d", blocks, code)
	}
	for _, x := range l {
		checkApply(t, m, x, api.OK)
	}
	return m
}

// told is a transaction in short.
func told(x api.Tx) string {
	s := fmt.Sprint(x.Time, ":")
	for _, p := range x.Puts {
		s += fmt.Sprint(" ", p.LBA, "/", len(p.Data))
	}
	return s
}

func checkApply(t *testing.T, m *Map, x api.Tx, want api.Errno) {
	t.Helper()
	if code := m.Apply(x); code != want {
		t.Fatalf("Apply(%s) = %d, want %d, behind %d", told(x), code, want, m.Last())
	}
}

// checkGet asks for the version of a time; 0 stands for none.
func checkGet(t *testing.T, m *Map, lba, at, want int) {
	t.Helper()
	bytesWant := zeros()
	if want != 0 {
		bytesWant = data(lba, want)
	}
	b, time := m.Get(lba, at)
	if time != want || !bytes.Equal(b, bytesWant) {
		t.Fatalf("Get(%d, %d) = %x, %d, want that of %d", lba, at, b, time, want)
	}
}

func checkNoBlock(t *testing.T, m *Map, lba, at int) {
	t.Helper()
	if b, time := m.Get(lba, at); len(b) != 0 || time != 0 {
		t.Fatalf("Get(%d, %d) = %x, %d, want none", lba, at, b, time)
	}
}

// checkRange asks for the versions of these times, block by block.
func checkRange(t *testing.T, m *Map, e api.Extent, at int, times ...int) {
	t.Helper()
	var want []byte
	for k, time := range times {
		if time == 0 {
			want = append(want, zeros()...)
		} else {
			want = append(want, data(e.First+k, time)...)
		}
	}
	b, code := m.Range(e, at)
	if code != api.OK || len(b) != e.Len*size || !bytes.Equal(b, want) {
		t.Fatalf("Range(%v, %d) = %x, %d, want those of %v", e, at, b, code, times)
	}
}

func checkNoRange(t *testing.T, m *Map, e api.Extent, at int) {
	t.Helper()
	if b, code := m.Range(e, at); code != errRange || len(b) != 0 {
		t.Fatalf("Range(%v, %d) = %d bytes, %d, want none, 2", e, at, len(b), code)
	}
}

func checkWritten(t *testing.T, m *Map, e api.Extent, after int, want bool) {
	t.Helper()
	if got := m.Written(e, after); got != want {
		t.Fatalf("Written(%v, %d) = %v, want %v", e, after, got, want)
	}
}

func checkPrune(t *testing.T, m *Map, horizon, want int) {
	t.Helper()
	if got := m.Prune(horizon); got != want {
		t.Fatalf("Prune(%d) = %d, want %d", horizon, got, want)
	}
}

func checkCounts(t *testing.T, m *Map, last, versions, used int) {
	t.Helper()
	if m.Last() != last || m.Versions() != versions || m.Used() != used {
		t.Fatalf("Last, Versions, Used = %d, %d, %d, want %d, %d, %d", m.Last(), m.Versions(), m.Used(), last, versions, used)
	}
}

// stand is a block and the time of a version.
type stand struct{ lba, time int }

func checkDump(t *testing.T, m *Map, want ...stand) {
	t.Helper()
	l := m.Dump()
	if len(l) != len(want) {
		t.Fatalf("Dump has %d blocks, want %v", len(l), want)
	}
	for k, w := range want {
		if l[k].LBA != w.lba || !bytes.Equal(l[k].Data, data(w.lba, w.time)) {
			t.Fatalf("Dump's %d. is block %d, %x, want %v", k, l[k].LBA, l[k].Data, w)
		}
	}
}

// seen is all that can be seen of a small map, at all times up to one past a last one.
func seen(m *Map, last int) string {
	s := fmt.Sprint(m.Blocks(), m.Last(), m.Versions(), m.Used(), m.Dump())
	for lba := -1; lba <= m.Blocks(); lba++ {
		for at := -1; at <= last+1; at++ {
			b, time := m.Get(lba, at)
			s += fmt.Sprint(lba, at, b, time, m.Written(x(lba, 1), at))
		}
	}
	return s
}

// odd is numbers that are no small ones: times, blocks and horizons.
func odd() []int {
	return []int{-1, -2, -40, -end, math.MinInt, math.MinInt + 1, -1 << 32, end, end + 1, 1 << 62, math.MaxInt - 1, math.MaxInt}
}

// wrong is extents that are not valid.
func wrong() []api.Extent {
	return []api.Extent{
		x(0, 0), x(5, 0), x(9, 0), x(10, 0), x(0, -1), x(5, -1), x(5, -3), x(9, -9), x(most, -1), x(most+1, 0),
		x(-1, 1), x(-1, 2), x(-1, 11), x(-5, 10), x(-5, 20), x(-most, most), x(-1, most), x(-1, most+2),
		x(most+1, 1), x(most+2, 1), x(most+1, -1), x(1<<32, 1), x(1<<32+3, 1), x(-1<<32, 1<<32+5),
		x(0, most+1), x(0, most+2), x(1, most+1), x(2, most), x(most, 2), x(most/2+1, most/2+1), x(0, 1<<32), x(3, 1<<32+1),
		x(1<<62, 1<<62), x(1<<62, 1), x(5, math.MaxInt), x(5, math.MaxInt-4), x(0, math.MaxInt), x(math.MaxInt, 1), x(math.MaxInt, math.MaxInt),
		x(math.MinInt, 5), x(math.MinInt, math.MaxInt), x(math.MinInt, math.MinInt), x(3, math.MinInt), x(math.MaxInt, math.MinInt), x(math.MinInt+13, math.MinInt),
	}
}

func TestP12_1New(t *testing.T) {
	for _, blocks := range []int{1, 2, 10, 200, 4096, most - 1, most} {
		m := made(t, blocks)
		if m.Blocks() != blocks {
			t.Errorf("Blocks = %d, want %d", m.Blocks(), blocks)
		}
		checkCounts(t, m, 0, 0, 0)
		checkDump(t, m)
		for _, at := range append(odd(), 0, 1, 2) {
			checkGet(t, m, 0, at, 0)
			checkGet(t, m, blocks-1, at, 0)
			checkNoBlock(t, m, blocks, at)
			checkWritten(t, m, x(0, blocks), at, false)
			checkRange(t, m, x(blocks-1, 1), at, 0)
			checkPrune(t, m, at, 0)
		}
		if o := made(t, blocks); o == m {
			t.Errorf("New(%d) is the same one twice", blocks)
		}
	}
}

func TestP12_1NewWrong(t *testing.T) {
	for _, blocks := range append(odd(), 0, most+1, most+2, 2*most, 1<<32, 1<<32+1) {
		if m, code := New(blocks); code != errArg || m != nil {
			t.Errorf("New(%d) = %v, %d, want nil, 1", blocks, m, code)
		}
	}
}

func TestP12_1Blocks(t *testing.T) {
	m := made(t, 7, tx(1, 0, 6), tx(2, 3))
	if m.Blocks() != 7 {
		t.Errorf("Blocks = %d, want 7", m.Blocks())
	}
	checkPrune(t, m, 2, 0)
	if m.Blocks() != 7 {
		t.Errorf("Blocks behind Prune = %d, want 7", m.Blocks())
	}
}

func TestP12_1Apply(t *testing.T) {
	m := made(t, 10)
	checkApply(t, m, tx(1, 4), api.OK)
	checkCounts(t, m, 1, 1, 1)
	checkApply(t, m, tx(2, 0), api.OK)
	checkCounts(t, m, 2, 2, 2)
	checkApply(t, m, tx(3, 9), api.OK)
	checkCounts(t, m, 3, 3, 3)
	checkApply(t, m, tx(7, 0, 1, 2, 3, 4, 5, 6, 7, 8, 9), api.OK)
	checkCounts(t, m, 7, 13, 10)
	checkApply(t, m, tx(8, 0, 9), api.OK)
	checkCounts(t, m, 8, 15, 10)
	checkApply(t, m, tx(end-1, 3, 5), api.OK)
	checkCounts(t, m, end-1, 17, 10)
	checkApply(t, m, tx(end, 5), api.OK)
	checkCounts(t, m, end, 18, 10)
	checkGet(t, m, 5, end, end)
	checkGet(t, m, 5, end-1, end-1)
	checkGet(t, m, 5, end-2, 7)
	checkGet(t, m, 4, 6, 1)
	for _, time := range []int{end, end + 1, end - 1, 9, 1} {
		checkApply(t, m, tx(time, 1), errTime)
	}
	checkCounts(t, m, end, 18, 10)
}

func TestP12_1ApplyOneTime(t *testing.T) {
	for _, time := range []int{1, 2, 255, 256, 1 << 16, 1 << 31, 1 << 32, 1<<32 + 1, end - 1, end} {
		m := made(t, 10, tx(time, 3))
		checkCounts(t, m, time, 1, 1)
		checkGet(t, m, 3, time, time)
		checkGet(t, m, 3, time-1, 0)
		checkDump(t, m, stand{3, time})
		checkApply(t, m, tx(time, 5), errTime)
		if time < end {
			checkApply(t, m, tx(time+1, 5), api.OK)
			checkDump(t, m, stand{3, time}, stand{5, time + 1})
		}
	}
}

// The last block of the greatest map, and that of the smallest one.
func TestP12_1ApplyAtTheEnds(t *testing.T) {
	m := made(t, most, tx(3, 0, most-1), tx(5, most-1))
	checkGet(t, m, 0, 9, 3)
	checkGet(t, m, most-1, 4, 3)
	checkGet(t, m, most-1, 5, 5)
	checkGet(t, m, 1, 9, 0)
	checkGet(t, m, most-2, 9, 0)
	checkApply(t, m, tx(6, most), errRange)
	checkApply(t, m, tx(6, most-1, most), errRange)
	checkCounts(t, m, 5, 3, 2)
	checkDump(t, m, stand{0, 3}, stand{most - 1, 5})

	m = made(t, 1, tx(1, 0))
	checkApply(t, m, tx(2, 1), errRange)
	checkApply(t, m, tx(2, -1), errRange)
	checkApply(t, m, tx(2, 0), api.OK)
	checkCounts(t, m, 2, 2, 1)
}

// Many at once, and what stands between others.
func TestP12_1ApplyMany(t *testing.T) {
	const n = 5000
	var even, all []int
	var want []stand
	for k := range n {
		all = append(all, k)
		want = append(want, stand{k, 5})
		if k%2 == 0 {
			even = append(even, k)
		}
	}
	m := made(t, n, tx(2, even...))
	checkCounts(t, m, 2, n/2, n/2)
	checkApply(t, m, tx(5, all...), api.OK)
	checkCounts(t, m, 5, n/2+n, n)
	checkDump(t, m, want...)
	for k := range n {
		checkGet(t, m, k, 4, 2*((k+1)%2))
		checkGet(t, m, k, 5, 5)
	}
	checkPrune(t, m, 5, n/2)
	checkCounts(t, m, 5, n, n)
}

// One block each, up, down and strewn: none is mixed up with another one.
func TestP12_1ApplyOrders(t *testing.T) {
	const n = 1000
	for _, step := range []int{1, n - 1, 391} { // each has no divisor in common with n
		m := made(t, n)
		var want []stand
		for k := range n {
			checkApply(t, m, tx(k+1, k*step%n), api.OK)
			want = append(want, stand{k * step % n, k + 1})
		}
		slices.SortFunc(want, func(a, b stand) int { return a.lba - b.lba })
		checkCounts(t, m, n, n, n)
		checkDump(t, m, want...)
		for _, w := range want {
			checkGet(t, m, w.lba, n, w.time)
			checkGet(t, m, w.lba, w.time-1, 0)
		}
	}
}

// A time that is not above the last one, or above the greatest one.
func TestP12_1ApplyErrTime(t *testing.T) {
	m := made(t, 10)
	for _, time := range []int{0, -1, -5, -end, math.MinInt, end + 1, end + 2, 1 << 41, 1 << 62, math.MaxInt} {
		checkApply(t, m, tx(time, 1), errTime)
	}
	checkCounts(t, m, 0, 0, 0)
	checkApply(t, m, tx(20, 1, 2), api.OK)
	for _, time := range []int{20, 19, 18, 10, 2, 1, 0, -1, -20, math.MinInt, end + 1, math.MaxInt} {
		checkApply(t, m, tx(time, 1), errTime)
		checkApply(t, m, tx(time, 5, 6), errTime) // blocks with no version yet
	}
	checkCounts(t, m, 20, 2, 2)
	checkDump(t, m, stand{1, 20}, stand{2, 20})
	checkApply(t, m, tx(21, 1), api.OK)
}

// The last time is what counts for every block, not that of the block's own versions, and Prune leaves it.
func TestP12_1ApplyExample(t *testing.T) {
	m := made(t, 10, tx(2, 0, 3))
	checkApply(t, m, tx(2, 0, 3), errTime)
	checkApply(t, m, tx(2, 5), errTime)
	checkApply(t, m, tx(9, 3), api.OK)
	checkPrune(t, m, 9, 1)
	checkApply(t, m, tx(9, 3), errTime)
	checkApply(t, m, tx(8, 0), errTime)
	checkApply(t, m, tx(3, 5), errTime)
	checkCounts(t, m, 9, 2, 2)
}

func TestP12_1ApplyErrArg(t *testing.T) {
	m := made(t, 10, tx(1, 4))
	checkApply(t, m, tx(2), errArg)
	checkApply(t, m, api.Tx{Time: 2, Puts: []api.Put{}}, errArg)
	for _, l := range [][]int{{2, 2}, {2, 1}, {0, 0}, {9, 9}, {9, 0}, {1, 2, 2}, {1, 1, 2}, {1, 3, 2}, {3, 1, 2}, {0, 1, 2, 3, 5, 4}, {0, 5, 1, 6}, {4, 4, 4}, {9, 8, 7}} {
		checkApply(t, m, tx(2, l...), errArg)
	}
	checkCounts(t, m, 1, 1, 1)
	checkDump(t, m, stand{4, 1})
}

func TestP12_1ApplyErrRange(t *testing.T) {
	m := made(t, 10, tx(1, 4))
	for _, lba := range []int{-1, -2, -10, math.MinInt, 10, 11, 20, most - 1, most, most + 1, 1 << 32, 1<<32 + 1, math.MaxInt} {
		checkApply(t, m, tx(2, lba), errRange)
		l := []int{1, 4, 8, lba}
		slices.Sort(l)
		checkApply(t, m, tx(2, l...), errRange)
	}
	checkApply(t, m, tx(2, -1, 10), errRange)
	checkApply(t, m, tx(2, math.MinInt, math.MaxInt), errRange)
	checkApply(t, m, tx(2, -2, -1), errRange)
	checkApply(t, m, tx(2, 10, 11), errRange)
	checkCounts(t, m, 1, 1, 1)
	checkDump(t, m, stand{4, 1})
}

func TestP12_1ApplyErrLen(t *testing.T) {
	m := made(t, 10, tx(1, 4))
	for _, b := range [][]byte{nil, {}, data(1, 2)[:39], append(data(1, 2), 0), data(1, 2)[:1], make([]byte, 64), make([]byte, 80), make([]byte, 1<<16+40), make([]byte, 39, 60)} {
		for n := 1; n <= 4; n++ {
			for k := range n {
				x := tx(2, []int{2, 4, 5, 9}[:n]...)
				x.Puts[k].Data = b
				checkApply(t, m, x, errLen)
			}
		}
	}
	checkCounts(t, m, 1, 1, 1)
	checkDump(t, m, stand{4, 1})
}

// faulty is a transaction of three blocks with some faults: 1 its time, 2 its order, 4 a block, 8 a length.
func faulty(faults, time, place int) api.Tx {
	l := []int{3, 5, 8}
	if faults&4 != 0 {
		l = [][]int{{-1, 5, 8}, {3, 5, 10}, {3, 10, 11}}[place]
	}
	if faults&2 != 0 {
		l = [][]int{{l[0], l[0], l[2]}, {l[2], l[1], l[0]}, {l[0], l[2], l[2]}}[place]
	}
	x := tx(7, l...)
	if faults&1 != 0 {
		x.Time = time
	}
	if faults&8 != 0 {
		x.Puts[place].Data = x.Puts[place].Data[:39]
	}
	return x
}

// Of several faults at once the first of the chapter's order is told, whichever Put has it, and nothing has changed.
func TestP12_1ApplyFirstError(t *testing.T) {
	m := made(t, 10, tx(2, 3, 4), tx(6, 3, 9))
	before := seen(m, 9)
	errs := map[int]api.Errno{1: errTime, 2: errArg, 4: errRange, 8: errLen}
	for faults := 1; faults < 16; faults++ {
		for place := range 3 {
			for _, time := range []int{6, 5, 0, -1, end + 1, math.MaxInt, math.MinInt} {
				checkApply(t, m, faulty(faults, time, place), errs[faults&-faults]) // the lowest bit comes first
			}
		}
	}
	for _, time := range []int{6, 0, -1, end + 1} {
		checkApply(t, m, tx(time), errTime) // with no Puts
	}
	if after := seen(m, 9); after != before {
		t.Errorf("%s turns to %s", before, after)
	}
	checkApply(t, m, faulty(0, 0, 0), api.OK)
	checkCounts(t, m, 7, 7, 5)
}

// The chapter's order goes ahead of the Puts' own one.
func TestP12_1ApplyAllPutsFirst(t *testing.T) {
	m := made(t, 10)
	x := tx(1, 1, 2, 10)
	x.Puts[0].Data = nil
	checkApply(t, m, x, errRange)
	x = tx(1, -1, 5, 5)
	x.Puts[0].Data = nil
	checkApply(t, m, x, errArg)
	x = tx(0, 5, 5)
	x.Puts[0].Data = nil
	checkApply(t, m, x, errTime)
	checkCounts(t, m, 0, 0, 0)
}

func TestP12_2GetExample(t *testing.T) {
	m := made(t, 10, tx(2, 3), tx(4, 3), tx(7, 3))
	checkGet(t, m, 3, 6, 4)
	for at, want := range []int{0, 0, 2, 2, 4, 4, 4, 7, 7, 7} {
		checkGet(t, m, 3, at, want)
	}
	for _, at := range odd() {
		if at > 0 {
			checkGet(t, m, 3, at, 7)
		} else {
			checkGet(t, m, 3, at, 0)
		}
	}
}

func TestP12_2Get(t *testing.T) {
	m := made(t, 10, tx(1, 0, 9), tx(5, 1, 2, 8), tx(6, 2), tx(end, 2, 9))
	for _, lba := range []int{3, 4, 5, 6, 7} {
		for _, at := range append(odd(), 0, 1, 5, 6) {
			checkGet(t, m, lba, at, 0)
		}
	}
	checkGet(t, m, 0, 0, 0)
	checkGet(t, m, 0, 1, 1)
	checkGet(t, m, 0, math.MaxInt, 1)
	checkGet(t, m, 1, 4, 0)
	checkGet(t, m, 1, 5, 5)
	checkGet(t, m, 1, end, 5)
	checkGet(t, m, 2, 4, 0)
	checkGet(t, m, 2, 5, 5)
	checkGet(t, m, 2, 6, 6)
	checkGet(t, m, 2, end-1, 6)
	checkGet(t, m, 2, end, end)
	checkGet(t, m, 2, math.MaxInt, end)
	checkGet(t, m, 8, 9, 5)
	checkGet(t, m, 9, end-1, 1)
	checkGet(t, m, 9, end, end)
}

func TestP12_2GetNoBlock(t *testing.T) {
	m := made(t, 10, tx(1, 0, 1, 9))
	for _, lba := range append(odd(), 10, 11, 19, most-1, most, most+1, 1<<32, 1<<32+1, -most) {
		for _, at := range []int{-1, 0, 1, 2, end, math.MaxInt} {
			checkNoBlock(t, m, lba, at)
		}
	}
}

// A block that was written with zeros has a version all the same.
func TestP12_2GetZeros(t *testing.T) {
	m := made(t, 4, api.Tx{Time: 3, Puts: []api.Put{{LBA: 2, Data: zeros()}}})
	b, time := m.Get(2, 3)
	if time != 3 || !bytes.Equal(b, zeros()) {
		t.Errorf("Get = %x, %d", b, time)
	}
	checkGet(t, m, 2, 2, 0)
	checkWritten(t, m, x(2, 1), 2, true)
	if l := m.Dump(); len(l) != 1 || l[0].LBA != 2 || !bytes.Equal(l[0].Data, zeros()) || m.Used() != 1 {
		t.Errorf("Dump = %v", l)
	}
}

func TestP12_2Range(t *testing.T) {
	m := made(t, 10, tx(2, 0, 3), tx(4, 3, 4, 9), tx(7, 3))
	checkRange(t, m, x(3, 1), 6, 4)
	checkRange(t, m, x(1, 1), 6, 0)
	checkRange(t, m, x(2, 3), 4, 0, 4, 4)
	checkRange(t, m, x(2, 3), 3, 0, 2, 0)
	checkRange(t, m, x(5, 4), 9, 0, 0, 0, 0)
	checkRange(t, m, x(8, 2), 9, 0, 4)
	checkRange(t, m, x(9, 1), 9, 4)
	checkRange(t, m, x(9, 1), 3, 0)
	checkRange(t, m, x(0, 1), 2, 2)
	checkRange(t, m, x(4, 6), 9, 4, 0, 0, 0, 0, 4)
	checkRange(t, m, x(0, 10), 9, 2, 0, 0, 7, 4, 0, 0, 0, 0, 4)
	checkRange(t, m, x(0, 10), 2, 2, 0, 0, 2, 0, 0, 0, 0, 0, 0)
	checkRange(t, m, x(0, 10), math.MaxInt, 2, 0, 0, 7, 4, 0, 0, 0, 0, 4)
	for _, at := range []int{1, 0, -1, -end, math.MinInt} {
		checkRange(t, m, x(0, 10), at, 0, 0, 0, 0, 0, 0, 0, 0, 0, 0)
	}
}

// Every extent of a small map at every time is what Get returns, one after another.
func TestP12_2RangeIsGet(t *testing.T) {
	m := made(t, 7, tx(1, 0, 2), tx(2, 2, 3, 6), tx(4, 0, 3, 5), tx(5, 6))
	for at := -1; at <= 7; at++ {
		for first := range 7 {
			var want []byte
			for n := 1; n <= 7-first; n++ {
				b, _ := m.Get(first+n-1, at)
				want = append(want, b...)
				if got, code := m.Range(x(first, n), at); code != api.OK || !bytes.Equal(got, want) {
					t.Fatalf("Range({%d, %d}, %d) = %x, %d, want %x", first, n, at, got, code, want)
				}
			}
		}
	}
}

// All blocks of the greatest map.
func TestP12_2RangeGreatest(t *testing.T) {
	m := made(t, most, tx(3, 0, 77, most-1))
	b, code := m.Range(x(0, most), 3)
	if code != api.OK || len(b) != most*size {
		t.Fatalf("Range = %d bytes, %d", len(b), code)
	}
	for _, lba := range []int{0, 77, most - 1} {
		part := b[lba*size : (lba+1)*size]
		if !bytes.Equal(part, data(lba, 3)) {
			t.Errorf("block %d is %x", lba, part)
		}
		clear(part)
	}
	if bytes.Trim(b, "\x00") != nil {
		t.Error("there is more than the three blocks")
	}
	checkRange(t, m, x(most-2, 2), 3, 0, 3)
	checkNoRange(t, m, x(1, most), 3) // a valid one
	checkNoRange(t, m, x(most, 1), 3)
	checkNoRange(t, m, x(most-1, 2), 3)
}

func TestP12_2RangeWrong(t *testing.T) {
	m := made(t, 10, tx(2, 0, 3, 9))
	checkNoRange(t, m, x(9, 2), 9) // the chapter's example
	beyond := []api.Extent{x(9, 3), x(0, 11), x(1, 10), x(10, 1), x(11, 1), x(5, 6), x(0, most), x(1, most), x(most, 1), x(most-1, 2), x(9, most-8)}
	for _, e := range append(wrong(), beyond...) {
		for _, at := range []int{-1, 0, 2, 9, math.MaxInt} {
			checkNoRange(t, m, e, at)
		}
	}
}

func TestP12_1Last(t *testing.T) {
	m := made(t, 10)
	for _, time := range []int{1, 2, 3, 10, 11, 1000, 1 << 32, end - 1, end} {
		checkApply(t, m, tx(time, time%10), api.OK)
		if m.Last() != time {
			t.Errorf("Last = %d, want %d", m.Last(), time)
		}
		checkApply(t, m, tx(time, 1), errTime)
		if time < end {
			checkApply(t, m, tx(time+1), errArg)
		}
		m.Prune(time)
		if m.Last() != time {
			t.Errorf("Last = %d, want %d behind errors and Prune", m.Last(), time)
		}
	}
}

func TestP12_2Written(t *testing.T) {
	m := made(t, 10, tx(2, 3), tx(4, 3, 5), tx(7, 3))
	for _, e := range []api.Extent{x(3, 1), x(2, 2), x(3, 2), x(0, 4), x(3, 7), x(0, 10), x(1, 5)} {
		for after := -2; after <= 9; after++ {
			checkWritten(t, m, e, after, after < 7)
		}
	}
	for _, e := range []api.Extent{x(5, 1), x(4, 2), x(5, 5), x(4, 6)} { // of which 5 alone was written: the first one, the last one, between
		for after := -2; after <= 9; after++ {
			checkWritten(t, m, e, after, after < 4)
		}
	}
	for _, e := range []api.Extent{x(0, 1), x(0, 3), x(2, 1), x(4, 1), x(6, 1), x(6, 4), x(9, 1)} {
		for _, after := range append(odd(), 0, 1, 2, 3, 4, 7) {
			checkWritten(t, m, e, after, false)
		}
	}
	for _, after := range odd() {
		checkWritten(t, m, x(3, 1), after, after < 0)
	}
}

// Valid extents that reach past the last block, and those that lie behind it.
func TestP12_2WrittenBeyond(t *testing.T) {
	m := made(t, 10, tx(4, 3, 9))
	for _, e := range []api.Extent{x(9, 2), x(5, 100), x(0, 11), x(0, most), x(1, most), x(9, most-8)} {
		checkWritten(t, m, e, 3, true)
		checkWritten(t, m, e, -1, true)
		checkWritten(t, m, e, 4, false)
	}
	for _, e := range []api.Extent{x(10, 1), x(10, 5), x(11, 1), x(10, most-9), x(most, 1), x(most-1, 2)} {
		checkWritten(t, m, e, 3, false)
		checkWritten(t, m, e, -1, false)
	}
}

func TestP12_2WrittenWrong(t *testing.T) {
	m := made(t, 10, tx(1, 0, 1, 2, 3, 4, 5, 6, 7, 8, 9), tx(9, 0, 9))
	for _, e := range wrong() {
		for _, after := range []int{math.MinInt, -1, 0, 1, 8, 9, math.MaxInt} {
			checkWritten(t, m, e, after, false)
		}
	}
}

func TestP12_3PruneExample(t *testing.T) {
	m := made(t, 10, tx(2, 3), tx(4, 3), tx(7, 3))
	checkPrune(t, m, 4, 1)
	for at, want := range []int{0, 0, 0, 0, 4, 4, 4, 7, 7} {
		checkGet(t, m, 3, at, want)
	}
	checkCounts(t, m, 7, 2, 1)
}

// One block's versions at 2, 4 and 7: how many go at each horizon, and which of them stay.
func TestP12_3PruneOneBlock(t *testing.T) {
	wants := []int{0, 0, 0, 0, 1, 1, 1, 2, 2, 2} // by horizon
	for horizon, want := range wants {
		m := made(t, 10, tx(2, 3), tx(4, 3), tx(7, 3))
		checkPrune(t, m, horizon, want)
		checkPrune(t, m, horizon, 0)
		checkCounts(t, m, 7, 3-want, 1)
		checkDump(t, m, stand{3, 7})
		first := []int{2, 4, 7}[want]
		checkGet(t, m, 3, first-1, 0)
		checkGet(t, m, 3, first, first)
		for below := range horizon {
			checkPrune(t, m, below, 0)
		}
		checkPrune(t, m, math.MaxInt, 2-want)
		checkCounts(t, m, 7, 1, 1)
	}
	for _, horizon := range odd() {
		m := made(t, 10, tx(2, 3), tx(4, 3), tx(7, 3))
		want := 0
		if horizon > 0 {
			want = 2
		}
		checkPrune(t, m, horizon, want)
		checkCounts(t, m, 7, 3-want, 1)
	}
}

// Each block for itself, and what is counted is all of them.
func TestP12_3Prune(t *testing.T) {
	m := made(t, 10, tx(1, 0, 5, 9), tx(2, 5), tx(3, 0, 5), tx(5, 5, 6), tx(8, 0, 6, 9))
	checkCounts(t, m, 8, 11, 4)
	checkPrune(t, m, 0, 0)
	checkPrune(t, m, 1, 0)
	checkPrune(t, m, 4, 3) // 0: that of 1; 5: those of 1 and 2
	checkCounts(t, m, 8, 8, 4)
	checkRange(t, m, x(0, 10), 4, 3, 0, 0, 0, 0, 3, 0, 0, 0, 1)
	checkRange(t, m, x(0, 10), 5, 3, 0, 0, 0, 0, 5, 5, 0, 0, 1)
	checkRange(t, m, x(0, 10), 8, 8, 0, 0, 0, 0, 5, 8, 0, 0, 8)
	checkRange(t, m, x(0, 10), 2, 0, 0, 0, 0, 0, 0, 0, 0, 0, 1)
	checkPrune(t, m, 4, 0)
	checkPrune(t, m, 7, 1) // 5: that of 3
	checkPrune(t, m, 8, 3)
	checkPrune(t, m, 9, 0)
	checkCounts(t, m, 8, 4, 4)
	checkDump(t, m, stand{0, 8}, stand{5, 5}, stand{6, 8}, stand{9, 8})
	checkWritten(t, m, x(5, 1), 4, true)
	checkWritten(t, m, x(5, 1), 5, false)
	checkWritten(t, m, x(0, 10), 7, true)
}

// A map that was pruned goes on.
func TestP12_3ApplyBehindPrune(t *testing.T) {
	m := made(t, 4)
	for time := 1; time <= 60; time++ {
		checkApply(t, m, tx(time, 1), api.OK)
		older := 1 // each time the one that the last Prune left below its horizon's
		if time < 3 {
			older = 0
		}
		checkPrune(t, m, time-1, older)
		checkCounts(t, m, time, min(time, 2), 1)
		checkGet(t, m, 1, time, time)
		checkGet(t, m, 1, time-1, time-1)
		checkGet(t, m, 1, time-2, 0)
	}
}

func TestP12_3Dump(t *testing.T) {
	m := made(t, 10)
	checkDump(t, m)
	checkApply(t, m, tx(1, 7), api.OK)
	checkDump(t, m, stand{7, 1})
	checkApply(t, m, tx(2, 3, 9), api.OK)
	checkDump(t, m, stand{3, 2}, stand{7, 1}, stand{9, 2})
	checkApply(t, m, tx(4, 0, 7), api.OK)
	checkDump(t, m, stand{0, 4}, stand{3, 2}, stand{7, 4}, stand{9, 2})
	checkApply(t, m, tx(6, 3), api.OK)
	checkCounts(t, m, 6, 6, 4)
	checkDump(t, m, stand{0, 4}, stand{3, 6}, stand{7, 4}, stand{9, 2})
	checkPrune(t, m, 9, 2)
	checkDump(t, m, stand{0, 4}, stand{3, 6}, stand{7, 4}, stand{9, 2})
	checkCounts(t, m, 6, 4, 4)
}

// The nil Map and the zero one answer alike, and go on doing so.
func TestP12_4NilAndZero(t *testing.T) {
	for _, m := range []*Map{nil, {}} {
		for range 2 {
			checkNilApply(t, m)
			for _, at := range append(odd(), 0, 1, 7) {
				checkNilAt(t, m, at)
			}
			checkCounts(t, m, 0, 0, 0)
			checkDump(t, m)
			if m.Blocks() != 0 {
				t.Errorf("Blocks = %d", m.Blocks())
			}
		}
	}
}

// checkNilApply holds every Apply, right or wrong, to ErrArg.
func checkNilApply(t *testing.T, m *Map) {
	t.Helper()
	for _, x := range []api.Tx{{}, tx(1), tx(1, 0), tx(1, 0, 1), tx(end, 5), tx(0, 0), tx(-1, 0), tx(end+1, 0), tx(1, 1, 1), tx(1, -1), tx(1, most), tx(0)} {
		checkApply(t, m, x, errArg)
	}
	short := tx(1, 0)
	short.Puts[0].Data = nil
	checkApply(t, m, short, errArg)
	for faults := range 16 {
		checkApply(t, m, faulty(faults, 0, 1), errArg)
	}
}

func checkNilAt(t *testing.T, m *Map, at int) {
	t.Helper()
	for _, lba := range append(odd(), 0, 1, most-1, most) {
		checkNoBlock(t, m, lba, at)
	}
	for _, e := range append(wrong(), x(0, 1), x(0, 10), x(0, most), x(1, most), x(most, 1)) {
		checkNoRange(t, m, e, at)
		checkWritten(t, m, e, at, false)
	}
	checkPrune(t, m, at, 0)
}

// What is read at a time stays, whatever is applied later and whatever is refused.
func TestP12_5LaterAppliesChangeNothing(t *testing.T) {
	throw := dice(5)
	m := made(t, 8)
	var reads [][]byte // by time
	for last := 0; last <= 60; last++ {
		all, code := m.Range(x(0, 8), last)
		if code != api.OK {
			t.Fatalf("Range is refused by %d", code)
		}
		reads = append(reads, all)
		for at, want := range reads {
			if got, _ := m.Range(x(0, 8), at); !bytes.Equal(got, want) {
				t.Fatalf("with %d applied, what is read at %d is another one", last, at)
			}
		}
		checkApply(t, m, tx(last, 3), errTime)
		first := throw(6)
		checkApply(t, m, tx(last+1, first, first+1+throw(7-first)), api.OK)
	}
}

// Prune at each horizon: what is read from there on is what it was.
func TestP12_5PruneChangesNothingLater(t *testing.T) {
	for horizon := -1; horizon <= 14; horizon++ {
		m := made(t, 6, tx(1, 0, 1), tx(3, 1, 2), tx(4, 1), tx(6, 0, 1, 5), tx(7, 2), tx(10, 0, 5), tx(12, 1))
		var before, after []byte
		for at := horizon; at <= 15; at++ {
			all, _ := m.Range(x(0, 6), at)
			before = append(before, all...)
		}
		versions := m.Versions()
		n := m.Prune(horizon)
		for at := horizon; at <= 15; at++ {
			all, _ := m.Range(x(0, 6), at)
			after = append(after, all...)
		}
		if !bytes.Equal(before, after) || m.Versions() != versions-n {
			t.Errorf("Prune(%d) = %d, and what is read is another one, of %d versions", horizon, n, m.Versions())
		}
	}
}

// spare is a list with room behind it, and the whole of it.
func spare[T any](l []T, behind ...T) (short, whole []T) {
	whole = append(slices.Clone(l), behind...)
	return whole[:len(l)], whole
}

// handed is a transaction whose slices all have room behind them, and all that they reach.
func handed(time int, blocks ...int) (x api.Tx, reached func() string, spoil func()) {
	x = tx(time, blocks...)
	var wholes [][]byte
	for k := range x.Puts {
		b, whole := spare(x.Puts[k].Data, 7, 8, 9)
		x.Puts[k].Data = b
		wholes = append(wholes, whole)
	}
	puts, all := spare(x.Puts, api.Put{LBA: 777, Data: data(7, 7)}, api.Put{LBA: 778})
	x.Puts = puts
	reached = func() string { return fmt.Sprint(all, wholes) }
	spoil = func() {
		for _, b := range wholes {
			for i := range b {
				b[i] ^= 0x5a
			}
		}
		for k := range all {
			all[k] = api.Put{LBA: 5, Data: data(1, 1)}
		}
	}
	return x, reached, spoil
}

func TestP12_5ArgumentsStay(t *testing.T) {
	m := made(t, 10)
	x, reached, spoil := handed(3, 0, 4, 9)
	before := reached()
	checkApply(t, m, x, api.OK)
	checkApply(t, m, x, errTime)
	checkApply(t, made(t, 5), x, errRange)
	checkApply(t, nil, x, errArg)
	y := x
	y.Time = 6
	checkApply(t, m, y, api.OK)
	checkPrune(t, m, 3, 0)
	checkPrune(t, m, 6, 3)
	if reached() != before {
		t.Errorf("%s turns to %s", before, reached())
	}
	m = made(t, 10)
	checkApply(t, m, x, api.OK)
	spoil()
	checkDump(t, m, stand{0, 3}, stand{4, 3}, stand{9, 3})
	checkGet(t, m, 0, 3, 3)
	checkGet(t, m, 5, 3, 0)
	checkApply(t, m, tx(4, 4, 5), api.OK)
	checkDump(t, m, stand{0, 3}, stand{4, 4}, stand{5, 4}, stand{9, 3})
	checkGet(t, m, 4, 3, 3)
}

// One slice for all Puts of a transaction is kept for none of them.
func TestP12_5SharedDataStaysApart(t *testing.T) {
	b := data(1, 1)
	m := made(t, 5)
	checkApply(t, m, api.Tx{Time: 1, Puts: []api.Put{{LBA: 1, Data: b}, {LBA: 2, Data: b}}}, api.OK)
	b[0]++
	checkApply(t, m, api.Tx{Time: 2, Puts: []api.Put{{LBA: 1, Data: b}}}, api.OK)
	b[0]++
	for _, w := range []struct{ lba, at, first int }{{1, 1, 0}, {2, 1, 0}, {2, 2, 0}, {1, 2, 1}} {
		if got, _ := m.Get(w.lba, w.at); got[0] != data(1, 1)[0]+byte(w.first) {
			t.Errorf("Get(%d, %d) = %x", w.lba, w.at, got)
		}
	}
}

// ruin changes all that bytes reach.
func ruin(b []byte) {
	for i := range b[:cap(b)] {
		b[:cap(b)][i] = 0xee
	}
}

func TestP12_5ResultsAreNew(t *testing.T) {
	m := made(t, 6, tx(2, 0, 3), tx(5, 3, 4))
	before := seen(m, 6)
	for lba := range 6 {
		for at := range 7 {
			one, _ := m.Get(lba, at)
			two, _ := m.Get(lba, at)
			kept := slices.Clone(two)
			ruin(one)
			if !bytes.Equal(two, kept) {
				t.Fatalf("two results of Get(%d, %d) share", lba, at)
			}
			ruin(two)
		}
	}
	for at := range 7 {
		one, _ := m.Range(x(0, 6), at)
		two, _ := m.Range(x(0, 6), at)
		kept := slices.Clone(two)
		ruin(one)
		if !bytes.Equal(two, kept) {
			t.Fatalf("two results of Range at %d share", at)
		}
		ruin(two)
	}
	if after := seen(m, 6); after != before {
		t.Fatalf("%s turns to %s", before, after)
	}
	l := m.Dump()
	kept := m.Dump()
	ruin(l[1].Data)
	if !bytes.Equal(l[0].Data, data(0, 2)) || !bytes.Equal(l[2].Data, data(4, 5)) {
		t.Error("two blocks of one Dump share")
	}
	for k := range l[:cap(l)] {
		l[:cap(l)][k] = api.Put{LBA: 9}
	}
	if fmt.Sprint(kept) != fmt.Sprint(m.Dump()) || seen(m, 6) != before {
		t.Error("what Dump returned is not new")
	}
}

// What was returned stays as it was, whatever comes behind it.
func TestP12_5ResultsStay(t *testing.T) {
	m := made(t, 6, tx(2, 0, 3), tx(5, 3, 4))
	b, _ := m.Get(3, 5)
	all, _ := m.Range(x(0, 6), 5)
	l := m.Dump()
	before := fmt.Sprint(b, all, l)
	checkPrune(t, m, 5, 1)
	checkApply(t, m, tx(6, 0, 1, 3, 5), api.OK)
	checkPrune(t, m, 6, 2)
	checkApply(t, m, tx(7, 0, 1, 2, 3, 4, 5), api.OK)
	if after := fmt.Sprint(b, all, l); after != before {
		t.Errorf("%s turns to %s", before, after)
	}
}

func TestP12_5StandApart(t *testing.T) {
	a, b := made(t, 5, tx(1, 2)), made(t, 5, tx(3, 2))
	x := tx(4, 2, 3)
	checkApply(t, a, x, api.OK)
	checkCounts(t, b, 3, 1, 1)
	checkApply(t, b, x, api.OK)
	checkPrune(t, a, 4, 1)
	checkCounts(t, a, 4, 2, 2)
	checkCounts(t, b, 4, 3, 2)
	checkGet(t, b, 2, 3, 3)
	checkGet(t, a, 2, 3, 0)
}

// Asking changes nothing.
func TestP12_5AskingChangesNothing(t *testing.T) {
	m := made(t, 6, tx(2, 0, 3), tx(5, 3, 4))
	before := seen(m, 6)
	if again := seen(m, 6); again != before {
		t.Errorf("%s turns to %s", before, again)
	}
}

// record is a version for itself.
type record struct {
	lba, time int
	data      []byte
}

// flat is a map of another hand: all versions in a list, of which each answer looks at all.
type flat struct {
	blocks, last int
	all          []record
}

func (f *flat) get(lba, at int) ([]byte, int) {
	if lba < 0 || lba >= f.blocks {
		return nil, 0
	}
	best := record{data: zeros()}
	for _, r := range f.all {
		if r.lba == lba && r.time <= at && r.time > best.time {
			best = r
		}
	}
	return best.data, best.time
}

func (f *flat) written(e api.Extent, after int) bool {
	return slices.ContainsFunc(f.all, func(r record) bool {
		return r.lba >= e.First && r.lba < e.First+e.Len && r.time > after
	})
}

func (f *flat) prune(horizon int) int {
	var kept []record
	for _, r := range f.all {
		if _, time := f.get(r.lba, horizon); r.time >= time {
			kept = append(kept, r)
		}
	}
	n := len(f.all) - len(kept)
	f.all = kept
	return n
}

func (f *flat) dump() []api.Put {
	var l []api.Put
	for lba := range f.blocks {
		if b, time := f.get(lba, math.MaxInt); time > 0 {
			l = append(l, api.Put{LBA: lba, Data: b})
		}
	}
	return l
}

// apply goes by the chapter's words, one condition behind the other.
func (f *flat) apply(x api.Tx) api.Errno {
	if x.Time <= f.last || x.Time > end {
		return errTime
	}
	for k, p := range x.Puts {
		if k > 0 && p.LBA <= x.Puts[k-1].LBA {
			return errArg
		}
	}
	if len(x.Puts) == 0 {
		return errArg
	}
	for _, p := range x.Puts {
		if p.LBA < 0 || p.LBA >= f.blocks {
			return errRange
		}
	}
	for _, p := range x.Puts {
		if len(p.Data) != size {
			return errLen
		}
	}
	for _, p := range x.Puts {
		f.all = append(f.all, record{p.LBA, x.Time, slices.Clone(p.Data)})
	}
	f.last = x.Time
	return api.OK
}

// thrown is a transaction that is right more often than not.
func thrown(throw func(int) int, f *flat) api.Tx {
	var blocks []int
	for range 1 + throw(5) {
		blocks = append(blocks, throw(f.blocks))
	}
	slices.Sort(blocks)
	blocks = slices.Compact(blocks)
	x := tx(f.last+1+throw(3), blocks...)
	k := throw(len(blocks))
	switch throw(16) {
	case 0:
		x.Time = f.last - throw(3)
	case 1:
		x.Puts = append(x.Puts, x.Puts[k])
	case 2:
		x.Puts[k].LBA += f.blocks
	case 3:
		x.Puts[k].LBA -= f.blocks
	case 4:
		x.Puts[k].Data = append(x.Puts[k].Data, 1)
	case 5:
		x.Puts[k].Data = nil
	}
	return x
}

// Thrown calls, held to the other hand's map behind every one.
func TestP12_5Thrown(t *testing.T) {
	for seed := range 60 {
		throw := dice(uint64(seed))
		f := &flat{blocks: []int{1, 2, 5, 20, 60}[seed%5]}
		m := made(t, f.blocks)
		codes := map[api.Errno]int{}
		pruned := 0
		for range 150 {
			x := thrown(throw, f)
			code := f.apply(x)
			codes[code]++
			checkApply(t, m, x, code)
			if throw(6) == 0 {
				horizon := f.last - throw(12)
				n := f.prune(horizon)
				pruned += n
				checkPrune(t, m, horizon, n)
			}
			checkSame(t, m, f, throw)
		}
		if len(codes) != 5 || pruned == 0 {
			t.Errorf("the throws are one-sided: %v, %d", codes, pruned)
		}
	}
}

func checkSame(t *testing.T, m *Map, f *flat, throw func(int) int) {
	t.Helper()
	l := f.dump()
	checkCounts(t, m, f.last, len(f.all), len(l))
	if got := m.Dump(); fmt.Sprint(got) != fmt.Sprint(l) {
		t.Fatalf("Dump = %v, want %v", got, l)
	}
	first := throw(f.blocks)
	e := x(first, 1+throw(f.blocks-first))
	at := throw(f.last+5) - 2
	checkWritten(t, m, e, at, f.written(e, at))
	var want []byte
	for k := range e.Len {
		b, time := f.get(first+k, at)
		if got, gotTime := m.Get(first+k, at); gotTime != time || !bytes.Equal(got, b) {
			t.Fatalf("Get(%d, %d) = %x, %d, want %x, %d", first+k, at, got, gotTime, b, time)
		}
		want = append(want, b...)
	}
	if got, code := m.Range(e, at); code != api.OK || !bytes.Equal(got, want) {
		t.Fatalf("Range(%v, %d) = %x, %d, want %x", e, at, got, code, want)
	}
}

// Every row of three transactions among two blocks, pruned at every horizon.
func TestP12_3AllShortRows(t *testing.T) {
	blocks := [][]int{{0}, {1}, {0, 1}}
	for row := range 27 {
		for gaps := range 8 {
			for horizon := -1; horizon <= 7; horizon++ {
				f := &flat{blocks: 2}
				m := made(t, 2)
				time := 0
				for k, pick := range []int{row % 3, row / 3 % 3, row / 9} {
					time += 1 + gaps>>k&1
					x := tx(time, blocks[pick]...)
					checkApply(t, m, x, f.apply(x))
				}
				checkAll(t, m, f)
				checkPrune(t, m, horizon, f.prune(horizon))
				checkAll(t, m, f)
			}
		}
	}
}

// checkAll holds all answers of a map of two blocks, at every time, to the other hand's.
func checkAll(t *testing.T, m *Map, f *flat) {
	t.Helper()
	for at := -1; at <= f.last+1; at++ {
		var all []byte
		for lba := range 2 {
			b, time := f.get(lba, at)
			if got, gotTime := m.Get(lba, at); gotTime != time || !bytes.Equal(got, b) {
				t.Fatalf("Get(%d, %d) = %x, %d, want %x, %d", lba, at, got, gotTime, b, time)
			}
			all = append(all, b...)
		}
		if got, code := m.Range(x(0, 2), at); code != api.OK || !bytes.Equal(got, all) {
			t.Fatalf("Range at %d = %x, %d, want %x", at, got, code, all)
		}
		for _, e := range []api.Extent{x(0, 1), x(1, 1), x(0, 2)} {
			checkWritten(t, m, e, at, f.written(e, at))
		}
	}
	checkCounts(t, m, f.last, len(f.all), len(f.dump()))
}
