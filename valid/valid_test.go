package valid

import (
	"bytes"
	"encoding/binary"
	"fmt"
	"math"
	"slices"
	"testing"

	"scarp/api"
	"scarp/extmap"
	"scarp/ival"
)

// The chapter's numbers, of their own.
const (
	size        = 40
	latest      = 1 << 40 // of the times
	greatest    = 1 << 20 // blocks of a map
	errConflict = api.Errno(8)
)

// dice answers numbers, the same ones at each run.
func dice(seed uint64) func(n int) int {
	state := seed
	return func(n int) int {
		state = state*6364136223846793005 + 1442695040888963407
		return int((state >> 33) % uint64(n))
	}
}

// data is 40 bytes, other ones for each block and each version of it.
func data(lba, version int) []byte {
	b := bytes.Repeat([]byte{byte(lba*31 + version*17)}, size)
	binary.LittleEndian.PutUint64(b[8:], uint64(lba))
	binary.LittleEndian.PutUint64(b[24:], uint64(version))
	return b
}

func x(first, n int) api.Extent { return api.Extent{First: first, Len: n} }

// tx is a transaction that writes blocks, in the order given.
func tx(time int, blocks ...int) api.Tx {
	t := api.Tx{Time: time}
	for _, lba := range blocks {
		t.Puts = append(t.Puts, api.Put{LBA: lba, Data: data(lba, time)})
	}
	return t
}

func txs(l ...api.Tx) []api.Tx { return l }

// set is one of single blocks.
func set(blocks ...int) *ival.Set {
	s := ival.New(greatest)
	for _, lba := range blocks {
		if code := s.Add(x(lba, 1)); code != api.OK {
			panic(fmt.Sprintf("Add of block %d = %d", lba, code))
		}
	}
	return s
}

// wide is one of extents.
func wide(l ...api.Extent) *ival.Set {
	s := ival.New(greatest)
	if code := s.Add(l...); code != api.OK {
		panic(fmt.Sprintf("Add of %v = %d", l, code))
	}
	return s
}

// whole is the set of all blocks that an extent can have: its one extent is longer than a valid one.
func whole() *ival.Set { return wide(x(0, greatest), x(greatest, 1)) }

// made is a map of what was applied.
func made(t *testing.T, blocks int, l ...api.Tx) *extmap.Map {
	t.Helper()
	m, code := extmap.New(blocks)
	if code != api.OK {
		t.Fatalf("extmap.New(%d) = %d", blocks, code)
	}
	for _, one := range l {
		if code := m.Apply(one); code != api.OK {
			t.Fatalf("Apply(%v) = %d", one, code)
		}
	}
	return m
}

// nobodies are sets that have no blocks.
func nobodies() []*ival.Set { return []*ival.Set{nil, {}, ival.New(9), ival.New(0), ival.New(-1)} }

// nowheres are maps that have no version.
func nowheres(t *testing.T) []*extmap.Map {
	return []*extmap.Map{nil, {}, made(t, 1), made(t, 20), made(t, greatest)}
}

// times are some that a transaction may have begun at.
func times() []int {
	return []int{math.MinInt, math.MinInt + 1, -1 << 40, -1 << 32, -5, -1, 0, 1, 2, 3, 4, 5, 6, 7, 8, 9, 255, 256, 1 << 32, 1<<32 + 3, latest - 1, latest, latest + 1, math.MaxInt - 1, math.MaxInt}
}

// strays are LBAs that no set can have.
func strays() []int {
	return []int{math.MinInt, math.MinInt + 1, math.MinInt + 5, -1 << 40, -1<<40 + 5, -1 << 32, -1<<32 + 5, -1 << 20, -256, -6, -5, -1, greatest + 1, greatest + 5, 1 << 21, 1 << 32, 1<<32 + 5, 1 << 40, 1<<40 + 5, 1 << 62, math.MaxInt - 1, math.MaxInt}
}

// blocksOf is all blocks of a set, by its extents.
func blocksOf(s *ival.Set) []int {
	var l []int
	for _, e := range s.Extents() {
		for k := range e.Len {
			l = append(l, e.First+k)
		}
	}
	return l
}

// has tells whether blocks are among others.
func has(blocks []int, l []api.Put) bool {
	return slices.ContainsFunc(l, func(p api.Put) bool { return slices.Contains(blocks, p.LBA) })
}

// may is Check by another hand: all that was applied is gone through anew.
func may(applied, queue []api.Tx, at int, reads, writes []int) api.Errno {
	if len(writes) == 0 {
		return 0
	}
	both := append(slices.Clone(reads), writes...)
	for _, t := range applied {
		if t.Time > at && has(both, t.Puts) {
			return errConflict
		}
	}
	for _, t := range queue {
		if has(both, t.Puts) {
			return errConflict
		}
	}
	return 0
}

// copyOf is a queue of its own, its bytes too.
func copyOf(l []api.Tx) []api.Tx {
	l = slices.Clone(l)
	for k := range l {
		l[k].Puts = slices.Clone(l[k].Puts)
		for i, p := range l[k].Puts {
			l[k].Puts[i].Data = slices.Clone(p.Data)
		}
	}
	return l
}

// told is all that a map, a queue and sets tell.
func told(m *extmap.Map, queue []api.Tx, sets ...*ival.Set) string {
	s := fmt.Sprint(m.Blocks(), m.Last(), m.Versions(), m.Used(), queue)
	for _, p := range m.Dump() {
		s += fmt.Sprint(p)
		for at := range 12 {
			s += fmt.Sprint(m.Get(p.LBA, at))
		}
	}
	for _, one := range sets {
		s += fmt.Sprint(one.Extents(), one.Count())
	}
	return s
}

// checkMay holds a Check to what it should answer, also when it is asked again.
func checkMay(t *testing.T, want api.Errno, m *extmap.Map, queue []api.Tx, at int, reads, writes *ival.Set) {
	t.Helper()
	for range 2 {
		if got := Check(m, queue, at, reads, writes); got != want {
			t.Fatalf("Check behind %d, at %d, queue %v, reads %v, writes %v = %d, want %d", m.Last(), at, queue, reads.Extents(), writes.Extents(), got, want)
		}
	}
}

// checkEither holds a Check to be the same for blocks that are read, that are written, and both.
func checkEither(t *testing.T, want api.Errno, m *extmap.Map, queue []api.Tx, at, elsewhere int, s *ival.Set) {
	t.Helper()
	checkMay(t, want, m, queue, at, s, set(elsewhere))
	checkMay(t, want, m, queue, at, set(elsewhere), s)
	checkMay(t, want, m, queue, at, s, s)
	for _, none := range nobodies() {
		checkMay(t, want, m, queue, at, none, s)
		checkMay(t, 0, m, queue, at, s, none)
	}
}

func checkAgainst(t *testing.T, want bool, one api.Tx, s *ival.Set) {
	t.Helper()
	for range 2 {
		if got := Against(one, s); got != want {
			t.Fatalf("Against(%v, %v) = %v, want %v", one, s.Extents(), got, want)
		}
	}
}

func checkOrder(t *testing.T, want bool, l ...api.Tx) {
	t.Helper()
	for range 2 {
		if got := Order(l); got != want {
			t.Fatalf("Order(%v) = %v, want %v", l, got, want)
		}
	}
}

func TestP16_1CheckExamples(t *testing.T) {
	m := made(t, 50, tx(3, 1, 5), tx(7, 5, 9))
	checkMay(t, errConflict, m, nil, 6, set(5), set(2)) // the chapter's
	checkMay(t, 0, m, nil, 7, set(5), set(2))
	checkMay(t, 0, m, nil, 8, set(5), set(2))
	checkMay(t, errConflict, m, nil, 6, set(2), set(5))
	checkMay(t, 0, m, nil, 6, set(1), set(2))
	checkMay(t, 0, m, nil, 3, set(1), set(1))
	checkMay(t, errConflict, m, nil, 2, set(1), set(2))
	checkMay(t, errConflict, m, nil, 2, nil, set(1))
	checkMay(t, 0, m, nil, 2, set(5, 9, 1), nil)
	queue := txs(tx(8, 20), tx(9, 21, 30))
	checkMay(t, errConflict, m, queue, 7, set(20), set(2))
	checkMay(t, errConflict, m, queue, 7, set(2), set(30))
	checkMay(t, errConflict, m, queue, 99, set(2), set(21)) // of the queue, no time is asked for
	checkMay(t, 0, m, queue, 7, set(22, 29, 31), set(19, 22))
	checkMay(t, 0, m, queue, 7, set(20, 21, 30), set())
}

// One block of time 7, and a transaction that began below, at and above it.
func TestP16_1CheckTimes(t *testing.T) {
	for _, time := range []int{1, 2, 7, 256, 1 << 32, 1<<32 + 3, latest - 1, latest} {
		m := made(t, 20, tx(time, 5))
		for _, at := range append(times(), time-2, time-1, time, time+1, time+2) {
			want := api.Errno(0)
			if time > at {
				want = errConflict
			}
			checkEither(t, want, m, nil, at, 2, set(5))
			checkEither(t, want, m, nil, at, 2, set(4, 5, 6))
			checkEither(t, want, m, nil, at, 2, whole())
			checkEither(t, 0, m, nil, at, 2, set(4, 6))
		}
	}
}

// Of several versions the last one tells.
func TestP16_1CheckVersions(t *testing.T) {
	m := made(t, 20, tx(2, 5), tx(4, 5, 6), tx(7, 5))
	for at := range 12 {
		five, six := api.Errno(0), api.Errno(0)
		if at < 7 {
			five = errConflict
		}
		if at < 4 {
			six = errConflict
		}
		checkEither(t, five, m, nil, at, 2, set(5))
		checkEither(t, six, m, nil, at, 2, set(6))
		checkEither(t, five, m, nil, at, 2, set(5, 6))
	}
	for horizon := range 12 { // what Prune leaves tells the same
		m.Prune(horizon)
		checkEither(t, errConflict, m, nil, 6, 2, set(5))
		checkEither(t, 0, m, nil, 7, 2, set(5))
		checkEither(t, errConflict, m, nil, 3, 2, set(6))
		checkEither(t, 0, m, nil, 4, 2, set(6))
	}
}

// A block without a version is no conflict at any time, not below 0 either.
func TestP16_1CheckWithoutVersion(t *testing.T) {
	for _, m := range nowheres(t) {
		for _, at := range times() {
			for _, s := range []*ival.Set{set(0), set(5), set(1, 5, 19), wide(x(0, 20)), set(20), set(greatest-1, greatest), wide(x(0, greatest)), whole()} {
				checkEither(t, 0, m, nil, at, 2, s)
				checkEither(t, 0, m, txs(tx(9, 3), tx(10)), at, 2, set(0, 1, 4, 5))
			}
		}
	}
}

// The first and the last block of an extent, and those right beside it.
func TestP16_1CheckEdgesOfExtents(t *testing.T) {
	for _, e := range []api.Extent{x(1, 1), x(5, 1), x(5, 2), x(5, 7), x(1, 17), x(0, 19), x(16, 3)} {
		first, last := e.First, e.First+e.Len-1
		for lba := range 20 {
			m, want := made(t, 30, tx(3, lba)), api.Errno(0)
			if first <= lba && lba <= last {
				want = errConflict
			}
			checkEither(t, want, m, nil, 2, 25, wide(e))
			checkEither(t, 0, m, nil, 3, 25, wide(e))
			checkEither(t, want, nil, txs(tx(4, lba)), 2, 40, wide(e))
			checkAgainst(t, want != 0, tx(4, lba), wide(e))
		}
	}
}

func TestP16_1CheckEndsOfMaps(t *testing.T) {
	for _, blocks := range []int{1, 2, 3, 20, 64, greatest - 1, greatest} {
		for _, lba := range []int{0, blocks / 2, blocks - 1} {
			m := made(t, blocks, tx(3, lba))
			for _, s := range []*ival.Set{set(lba), wide(x(0, blocks)), wide(x(lba, blocks-lba)), wide(x(0, lba+1)), wide(x(lba, greatest-lba)), wide(x(0, greatest)), whole()} {
				checkEither(t, errConflict, m, nil, 2, greatest, s)
				checkEither(t, 0, m, nil, 3, greatest, s)
			}
			beside := wide(x(lba+1, greatest-lba))
			if lba > 0 {
				beside.Add(x(0, lba))
			}
			checkEither(t, 0, m, nil, 2, greatest, beside)
		}
	}
}

// The set of all blocks is one extent, longer than any that can be asked for.
func TestP16_1CheckWhole(t *testing.T) {
	if got, want := whole().Extents(), x(0, greatest+1); len(got) != 1 || got[0] != want {
		t.Fatalf("Extents = %v, want %v", got, want)
	}
	for _, lba := range []int{0, 1, 5, greatest - 2, greatest - 1} {
		m := made(t, greatest, tx(3, lba))
		checkEither(t, errConflict, m, nil, 2, 7, whole())
		checkEither(t, 0, m, nil, 3, 7, whole())
	}
	for _, lba := range []int{0, 1, 5, greatest - 1, greatest} {
		checkEither(t, errConflict, nil, txs(tx(1, lba)), 3, 7, whole())
		checkAgainst(t, true, tx(1, lba), whole())
	}
	for _, lba := range strays() {
		checkEither(t, 0, nil, txs(tx(1, lba)), 3, 7, whole())
		checkAgainst(t, false, tx(1, lba), whole())
	}
}

// Of many extents only one has a later block: the first, one between, the last.
func TestP16_1CheckManyExtents(t *testing.T) {
	var l []int
	for lba := 0; lba < 256; lba += 2 {
		l = append(l, lba)
	}
	s := set(l...)
	for lba := range 256 {
		want := api.Errno(0)
		if lba%2 == 0 {
			want = errConflict
		}
		checkEither(t, want, made(t, 300, tx(3, lba)), nil, 2, 299, s)
		checkEither(t, want, nil, txs(tx(3, lba)), 2, 299, s)
	}
}

// Only the last one of a queue touches the set, or the first, or one between; only its last Put, or another.
func TestP16_1CheckQueue(t *testing.T) {
	m := made(t, 50, tx(1, 5), tx(2, 6))
	for n := range 10 {
		for k := range n {
			for put := range 4 {
				var queue []api.Tx
				for i := range n {
					queue = append(queue, tx(3+i, 10, 12, 14, 16))
				}
				checkEither(t, 0, m, queue, 2, 40, set(5, 11, 13))
				queue[k].Puts[put].LBA = 13
				checkEither(t, errConflict, m, queue, 2, 40, set(5, 11, 13))
				checkEither(t, errConflict, nil, queue, 99, 40, set(5, 11, 13))
				checkEither(t, 0, m, queue, 2, 40, set(5, 11, 15))
			}
		}
	}
}

// What a queue's Times are, their order and the order of their LBAs, is nothing to Check.
func TestP16_1CheckQueueOfAnyTimes(t *testing.T) {
	for _, time := range times() {
		for _, at := range times() {
			queue := txs(tx(time, 9, 5, 9, -1), tx(time-1), tx(time, 3))
			checkEither(t, errConflict, nil, queue, at, 40, set(5))
			checkEither(t, errConflict, nil, queue, at, 40, set(3))
			checkEither(t, 0, nil, queue, at, 40, set(4, 6, 8, 10))
		}
	}
}

// No block beyond a map or a set is one of them.
func TestP16_1CheckStrays(t *testing.T) {
	m := made(t, 20, tx(3, 0, 5, 19))
	for _, lba := range strays() {
		for _, s := range []*ival.Set{set(5), wide(x(0, 20)), set(0, 5, 19), wide(x(0, greatest)), whole()} {
			checkEither(t, 0, m, txs(tx(4, lba), tx(5, lba, lba)), 3, 40, s)
			checkAgainst(t, false, tx(4, lba), s)
			checkAgainst(t, true, tx(4, lba, 5), s)
			checkAgainst(t, true, tx(4, 5, lba), s)
		}
	}
	for _, s := range []*ival.Set{set(20), wide(x(20, 100)), set(greatest - 1), set(greatest), wide(x(20, greatest-19))} {
		checkEither(t, 0, m, nil, 2, 30, s)
		checkEither(t, 0, m, nil, math.MinInt, 30, s)
	}
	checkEither(t, errConflict, m, nil, 2, 30, wide(x(19, 100)))
	checkEither(t, errConflict, m, txs(tx(4, greatest)), 3, 30, set(greatest))
}

// Bytes of any length are nothing to any of the three.
func TestP16_1AnyData(t *testing.T) {
	for _, b := range [][]byte{nil, {}, {1}, make([]byte, 39), make([]byte, 40), make([]byte, 41), make([]byte, 4096)} {
		one := api.Tx{Time: 4, Puts: []api.Put{{LBA: 3, Data: b}, {LBA: 5, Data: b}}}
		checkEither(t, errConflict, nil, txs(one), 9, 40, set(5))
		checkEither(t, 0, nil, txs(one), 0, 40, set(4))
		checkAgainst(t, true, one, set(5))
		checkAgainst(t, false, one, set(4))
		checkOrder(t, true, one)
		checkOrder(t, false, one, one)
	}
}

// All sets of reads and of writes among a few blocks, against every block's version and every block of a queue.
func TestP16_1CheckEveryRow(t *testing.T) {
	const blocks, at = 4, 2
	pick := func(row int) []int {
		var l []int
		for lba := range blocks {
			if row>>lba&1 == 1 {
				l = append(l, lba)
			}
		}
		return l
	}
	both := map[api.Errno]int{}
	for old := range 1 << blocks {
		for later := range 1 << blocks {
			var applied []api.Tx
			if old > 0 {
				applied = append(applied, tx(at, pick(old)...))
			}
			if later > 0 {
				applied = append(applied, tx(at+1, pick(later)...))
			}
			m := made(t, blocks, applied...)
			for waits := range 1 << blocks {
				queue := txs(tx(at+2, pick(waits)...))
				for row := range 1 << (2 * blocks) {
					reads, writes := pick(row), pick(row>>blocks)
					want := may(applied, queue, at, reads, writes)
					if got := Check(m, queue, at, set(reads...), set(writes...)); got != want {
						t.Fatalf("Check of %v, queue %v, reads %v, writes %v = %d, want %d", applied, queue, reads, writes, got, want)
					}
					both[want]++
				}
			}
		}
	}
	if both[0] < 9999 || both[errConflict] < 9999 || len(both) != 2 {
		t.Fatalf("one-sided: %v", both)
	}
}

// thrown is a transaction among some blocks.
func thrown(roll func(int) int, time, blocks, most int) api.Tx {
	var l []int
	for range roll(most) + 1 {
		l = append(l, roll(blocks))
	}
	slices.Sort(l)
	return tx(time, slices.Compact(l)...)
}

// thrownSet is a set of some extents.
func thrownSet(roll func(int) int, blocks, most int) *ival.Set {
	s := ival.New(greatest)
	for range roll(most) {
		first := roll(blocks)
		s.Add(x(first, min(roll(3)+1, blocks-first)))
	}
	return s
}

func TestP16_1CheckThrown(t *testing.T) {
	roll := dice(16)
	both := map[api.Errno]int{}
	for range 4000 {
		blocks := roll(60) + 20
		var applied, queue []api.Tx
		time := 0
		for range roll(8) {
			time += roll(3) + 1
			applied = append(applied, thrown(roll, time, blocks, 6))
		}
		for range roll(4) {
			time += roll(3) + 1
			queue = append(queue, thrown(roll, time, blocks, 4))
		}
		m := made(t, blocks, applied...)
		for range 10 {
			at, reads, writes := roll(time+2), thrownSet(roll, blocks+5, 6), thrownSet(roll, blocks+5, 4)
			want := may(applied, queue, at, blocksOf(reads), blocksOf(writes))
			checkMay(t, want, m, queue, at, reads, writes)
			for _, one := range queue {
				checkAgainst(t, has(blocksOf(reads), one.Puts), one, reads)
			}
			both[want]++
		}
	}
	if both[0] < 9999 || both[errConflict] < 9999 {
		t.Fatalf("one-sided: %v", both)
	}
}

func TestP16_1Against(t *testing.T) {
	one := tx(9, 21, 25, 30)
	checkAgainst(t, true, one, set(21)) // its first Put alone
	checkAgainst(t, true, one, set(25)) // one between
	checkAgainst(t, true, one, set(30)) // its last one
	checkAgainst(t, true, one, set(1, 30))
	checkAgainst(t, true, one, wide(x(0, 22)))
	checkAgainst(t, true, one, wide(x(30, 40)))
	checkAgainst(t, false, one, set(20, 22, 24, 26, 29, 31))
	checkAgainst(t, false, one, wide(x(22, 3), x(26, 4), x(31, 99), x(0, 21)))
	for _, none := range nobodies() {
		checkAgainst(t, false, one, none)
		checkAgainst(t, false, api.Tx{}, none)
		checkAgainst(t, false, tx(9, strays()...), none)
		checkAgainst(t, false, tx(9, 0), none)
	}
	for _, without := range txs(api.Tx{}, tx(9), api.Tx{Time: 9, Puts: []api.Put{}}) {
		checkAgainst(t, false, without, set(0))
		checkAgainst(t, false, without, whole())
	}
	for _, time := range times() { // the time is nothing to it
		checkAgainst(t, true, tx(time, 5), set(5))
		checkAgainst(t, false, tx(time, 5), set(4))
	}
	checkAgainst(t, true, tx(1, 5, 5, 4, 3, 5), set(3)) // nor is the order
}

// Every row of Puts within few blocks, and every set of these.
func TestP16_1AgainstEveryRow(t *testing.T) {
	for row := range 1 << 10 {
		var puts, blocks []int
		for k := range 5 {
			if row>>k&1 == 1 {
				puts = append(puts, k)
			}
			if row>>(5+k)&1 == 1 {
				blocks = append(blocks, k)
			}
		}
		checkAgainst(t, row&(row>>5)&31 != 0, tx(1, puts...), set(blocks...))
		slices.Reverse(puts)
		checkAgainst(t, row&(row>>5)&31 != 0, tx(1, puts...), set(blocks...))
	}
}

func TestP16_2OrderExamples(t *testing.T) {
	checkOrder(t, true)
	checkOrder(t, false, tx(3, 1), tx(3, 2)) // the chapter's
	checkOrder(t, true, tx(3, 1))
	checkOrder(t, true, tx(3, 1), tx(4, 2), tx(5, 1))
	checkOrder(t, true, tx(3, 1), tx(9, 2), tx(1000, 1))
	checkOrder(t, false, tx(4, 1), tx(3, 2))
	checkOrder(t, false, tx(3, 1), tx(5, 2), tx(4, 3))
	checkOrder(t, false, tx(3, 1), tx(5, 2), tx(5, 3))
	checkOrder(t, true, tx(1, 1, 2, 9))
	checkOrder(t, false, tx(1, 1, 2, 2))
	checkOrder(t, false, tx(1, 1, 3, 2))
	checkOrder(t, false, tx(1, 2, 1, 3))
	checkOrder(t, true, tx(1, 7, 8), tx(2, 1, 2), tx(3, 1)) // they go on lower in the next one
	checkOrder(t, false, tx(1, 1, 2), tx(2, 4, 4))
	checkOrder(t, false, tx(1, 4, 4), tx(2, 1, 2))
}

// The first Time, and the last one, are from 1 to MaxTime.
func TestP16_2OrderTimes(t *testing.T) {
	for _, time := range times() {
		checkOrder(t, 1 <= time && time <= latest, tx(time, 1))
		checkOrder(t, 1 < time && time <= latest, tx(1, 1), tx(time, 1))
		checkOrder(t, 1 <= time && time < latest, tx(time, 1), tx(latest, 1))
		checkOrder(t, 1 < time && time < latest, tx(1, 1), tx(time, 1), tx(latest, 1))
		checkOrder(t, false, tx(time, 1), tx(time, 1))
		checkOrder(t, false, tx(time, 1), tx(latest+1, 1))
		checkOrder(t, false, tx(0, 1), tx(time, 1))
		checkOrder(t, false, tx(-1, 1), tx(time, 1))
		checkOrder(t, false, tx(math.MinInt, 1), tx(time, 1))
		checkOrder(t, false, tx(time, 1), tx(math.MaxInt, 1))
	}
	for _, c := range []struct {
		time int
		want bool
	}{{0, false}, {1, true}, {latest, true}, {latest + 1, false}} {
		checkOrder(t, c.want, tx(c.time, 1))
	}
}

// A Tx without Puts at the beginning, in the middle and at the end.
func TestP16_2OrderWithoutPuts(t *testing.T) {
	for n := 1; n <= 9; n++ {
		for k := range n {
			var l []api.Tx
			for i := range n {
				l = append(l, tx(i+1, 1, 2))
			}
			checkOrder(t, true, l...)
			l[k].Puts = nil
			checkOrder(t, false, l...)
			l[k].Puts = []api.Put{}
			checkOrder(t, false, l...)
			l[k].Puts = make([]api.Put, 0, 4)
			checkOrder(t, false, l...)
		}
	}
	checkOrder(t, false, api.Tx{})
}

// Which LBAs they are is nothing to Order, only that they rise.
func TestP16_2OrderLBAs(t *testing.T) {
	l := append(strays(), 0, 1, 2, 5, greatest-1, greatest)
	slices.Sort(l)
	checkOrder(t, true, tx(1, l...))
	for i, a := range l {
		checkOrder(t, true, tx(1, a))
		for k, b := range l {
			checkOrder(t, i < k, tx(1, a, b))
			checkOrder(t, true, tx(1, a), tx(2, b))
			checkOrder(t, i < k, tx(1, 5), tx(2, a, b))
			checkOrder(t, i < k, tx(1, a, b), tx(2, 5))
		}
	}
	checkOrder(t, true, tx(1<<40, -5, 1<<60))
}

// Many Txs of many Puts, and one step that is wrong anywhere.
func TestP16_2OrderOneStep(t *testing.T) {
	const n = 20
	fine := func() []api.Tx {
		var l []api.Tx
		for i := range n {
			l = append(l, tx(10+3*i, 1, 4, 7, 10, 13))
		}
		return l
	}
	checkOrder(t, true, fine()...)
	for i := range n {
		for _, up := range []int{-3, -2, -1, 0, 1, 2, 3} {
			l := fine()
			l[i].Time += up
			checkOrder(t, up > -3 && up < 3 || i == 0 && up < 3 || i == n-1 && up > -3, l...)
			for k := range 5 {
				l := fine()
				l[i].Puts[k].LBA += up
				checkOrder(t, up > -3 && up < 3 || k == 0 && up < 3 || k == 4 && up > -3, l...)
			}
		}
	}
}

// Every short list of times and blocks, by the chapter's words.
func TestP16_2OrderEveryList(t *testing.T) {
	times := []int{-1, 0, 1, 2, latest, latest + 1}
	blocks := [][]int{{}, {3}, {3, 4}, {3, 3}, {4, 3}}
	rises := func(l []int) bool {
		return len(slices.Compact(slices.Clone(l))) == len(l) && slices.IsSorted(l)
	}
	both := map[bool]int{}
	var grow func(l []api.Tx, at []int, fine bool)
	grow = func(l []api.Tx, at []int, fine bool) {
		want := fine && rises(at) && (len(at) == 0 || at[0] > 0 && at[len(at)-1] <= latest)
		both[want]++
		checkOrder(t, want, l...)
		if len(l) == 3 {
			return
		}
		for _, time := range times {
			for _, b := range blocks {
				grow(append(slices.Clone(l), tx(time, b...)), append(slices.Clone(at), time), fine && len(b) > 0 && rises(b))
			}
		}
	}
	grow(nil, nil, true)
	if both[true] != 1+3*2+3*4+1*8 {
		t.Fatalf("in order: %d of %d", both[true], both[false])
	}
}

// A transaction that only reads is never refused, whatever the map and the queue have.
func TestP16_3OnlyReads(t *testing.T) {
	m := made(t, 20, tx(3, 0, 5, 19), tx(latest, 5, 6))
	queue := txs(tx(7, 5), tx(6, strays()...), tx(latest+1, 0, 1, 2, 3, 4, 5, 19), tx(0))
	reads := append(nobodies(), set(0), set(5), set(19), set(20), wide(x(0, 20)), wide(x(0, greatest)), whole())
	for _, at := range times() {
		for _, r := range reads {
			for _, w := range nobodies() {
				checkMay(t, 0, m, queue, at, r, w)
				checkMay(t, 0, m, nil, at, r, w)
				for _, none := range nowheres(t) {
					checkMay(t, 0, none, queue, at, r, w)
				}
			}
		}
	}
}

// A transaction that has neither a map nor a set to read.
func TestP16_3WithoutAnything(t *testing.T) {
	for _, at := range times() {
		for _, m := range nowheres(t) {
			for _, r := range nobodies() {
				checkMay(t, 0, m, nil, at, r, set(5))
				checkMay(t, 0, m, []api.Tx{}, at, r, set(5))
				checkMay(t, 0, m, txs(tx(3, 4), tx(4)), at, r, set(5))
				checkMay(t, errConflict, m, txs(tx(3, 4), tx(4, 5)), at, r, set(5))
			}
		}
	}
}

// spare is a list with room behind it that is marked.
func spare(l []api.Tx) []api.Tx {
	mark := tx(77, 70, 71)
	full := append(slices.Clone(l), mark, mark)
	for k := range full {
		full[k].Puts = append(slices.Clone(full[k].Puts), mark.Puts...)[:len(full[k].Puts)]
	}
	return full[:len(l)]
}

// rest is all of a list, what stands in its room too.
func rest(l []api.Tx) string {
	s := ""
	for _, t := range l[:cap(l)] {
		s += fmt.Sprint(t.Time, len(t.Puts), t.Puts[:cap(t.Puts)])
	}
	return s
}

func TestP16_3ArgumentsStay(t *testing.T) {
	roll := dice(163)
	for range 500 {
		var applied, queue []api.Tx
		for k := range roll(6) {
			applied = append(applied, thrown(roll, k+1, 20, 5))
		}
		for k := range roll(4) {
			queue = append(queue, thrown(roll, k+9, 20, 5))
		}
		m := made(t, 20, applied...)
		queue = spare(queue)
		reads, writes := thrownSet(roll, 25, 5), thrownSet(roll, 25, 5)
		before, room := told(m, queue, reads, writes), rest(queue)
		for at := range 8 {
			Check(m, queue, at, reads, writes)
			Check(m, queue, at, writes, reads)
			Check(m, queue, at, reads, reads)
		}
		for _, one := range queue {
			Against(one, reads)
			Against(one, writes)
		}
		Order(queue)
		slices.Reverse(queue)
		Order(queue)
		slices.Reverse(queue)
		if got := told(m, queue, reads, writes); got != before || rest(queue) != room {
			t.Fatalf("behind the calls\n%s\nwant\n%s", got, before)
		}
	}
}

// What was asked with is the caller's: it turns, and the next answer goes by what it is now.
func TestP16_3ArgumentsAreNotKept(t *testing.T) {
	m, queue := made(t, 20, tx(1, 5)), txs(tx(2, 7))
	reads, writes := set(5), set(3)
	checkMay(t, 0, m, queue, 1, reads, writes)
	queue[0].Puts[0].LBA = 5
	checkMay(t, errConflict, m, queue, 1, reads, writes)
	queue[0].Puts[0].LBA = 7
	checkMay(t, 0, m, queue, 1, reads, writes)
	reads.Add(x(7, 1))
	checkMay(t, errConflict, m, queue, 1, reads, writes)
	checkMay(t, 0, m, nil, 1, reads, writes)
	m.Apply(tx(2, 7))
	checkMay(t, errConflict, m, nil, 1, reads, writes)
	checkMay(t, 0, m, nil, 2, reads, writes)
	writes.Add(x(9, 1))
	checkMay(t, 0, m, nil, 2, reads, writes)
	m.Apply(tx(3, 9))
	checkMay(t, errConflict, m, nil, 2, reads, writes)
	l := txs(tx(1, 2, 3), tx(2, 2, 3))
	checkOrder(t, true, l...)
	l[1].Time = 1
	checkOrder(t, false, l...)
	l[1].Time, l[1].Puts[0].LBA = 2, 3
	checkOrder(t, false, l...)
	l[1].Puts[0].LBA = 1
	checkOrder(t, true, l...)
}

// A queue that was asked with once is as it was, to its last byte.
func TestP16_3QueueStaysByHand(t *testing.T) {
	queue := txs(tx(2, 7, 9), tx(3, 1), tx(4))
	want := copyOf(queue)
	Check(nil, queue, 1, set(1), set(2))
	Against(queue[0], set(9))
	Order(queue)
	for k, one := range queue {
		if one.Time != want[k].Time || !slices.EqualFunc(one.Puts, want[k].Puts, func(p, q api.Put) bool { return p.LBA == q.LBA && bytes.Equal(p.Data, q.Data) }) {
			t.Fatalf("Tx %d = %v, want %v", k, one, want[k])
		}
	}
}
