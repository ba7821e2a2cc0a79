package rset

import (
	"bytes"
	"encoding/binary"
	"fmt"
	"math"
	"slices"
	"testing"

	"scarp/api"
	"scarp/extmap"
	"scarp/ival"
	"scarp/wbuf"
)

// The chapter's numbers, of their own.
const (
	size     = 40
	widest   = 16
	most     = 64      // extents of a read set
	greatest = 1 << 20 // blocks of a map
	errRange = api.Errno(2)
	errLen   = api.Errno(3)
	errBig   = api.Errno(7)
)

// dice answers numbers, the same ones at each run.
func dice(seed uint64) func(n int) int {
	state := seed
	return func(n int) int {
		state = state*6364136223846793005 + 1442695040888963407
		return int((state >> 33) % uint64(n))
	}
}

// data is 40 bytes, none of them 0, other ones for each block and each version of it.
func data(lba, version int) []byte {
	b := make([]byte, size)
	for i := range b {
		b[i] = byte(lba*31+version*17+i*7)%255 + 1
	}
	binary.LittleEndian.PutUint64(b[8:], uint64(lba)|1<<63)
	binary.LittleEndian.PutUint64(b[24:], uint64(version)|1<<63)
	return b
}

// none is a block of neither the buffer nor the map, read.
func none(lba int) api.Read { return api.Read{LBA: lba, Data: make([]byte, size)} }

// of is one of the map, of a time.
func of(lba, time int) api.Read { return api.Read{LBA: lba, Data: data(lba, time)} }

// own is one of the buffer, of its nth writing.
func own(lba, nth int) api.Read { return api.Read{LBA: lba, Data: data(lba, 1<<50+nth), Own: true} }

func x(first, n int) api.Extent { return api.Extent{First: first, Len: n} }

func list(l ...api.Extent) []api.Extent { return l }

// desk is a map and a buffer, and all that came to them.
type desk struct {
	m       *extmap.Map
	b       *wbuf.Buf
	blocks  int
	applied []api.Tx
	written []api.Put
}

func laid(t *testing.T, blocks int) *desk {
	t.Helper()
	m, code := extmap.New(blocks)
	if code != api.OK {
		t.Fatalf("extmap.New(%d) = %d", blocks, code)
	}
	b, code := wbuf.New(blocks, blocks)
	if code != api.OK {
		t.Fatalf("wbuf.New(%d, %d) = %d", blocks, blocks, code)
	}
	return &desk{m: m, b: b, blocks: blocks}
}

// apply applies blocks in ascending order to the map.
func (d *desk) apply(t *testing.T, time int, blocks ...int) {
	t.Helper()
	var puts []api.Put
	for _, lba := range blocks {
		puts = append(puts, api.Put{LBA: lba, Data: data(lba, time)})
	}
	tx := api.Tx{Time: time, Puts: puts}
	if code := d.m.Apply(tx); code != api.OK {
		t.Fatalf("Apply of %d at %d = %d", blocks, time, code)
	}
	d.applied = append(d.applied, tx)
}

// write writes blocks to the buffer for the nth time.
func (d *desk) write(t *testing.T, nth int, blocks ...int) {
	t.Helper()
	for _, lba := range blocks {
		p := api.Put{LBA: lba, Data: own(lba, nth).Data}
		if code := d.b.Write(p); code != api.OK {
			t.Fatalf("Write of %d = %d", lba, code)
		}
		d.written = append(d.written, p)
	}
}

// block is how a block is to be read at a time, by another hand: all that came is gone through anew.
func (d *desk) block(lba, at int) api.Read {
	r := none(lba)
	for _, tx := range d.applied {
		for _, p := range tx.Puts {
			if p.LBA == lba && tx.Time <= at {
				r.Data = p.Data
			}
		}
	}
	for _, p := range d.written {
		if p.LBA == lba {
			r.Data, r.Own = p.Data, true
		}
	}
	return r
}

// extent is how the blocks of one are.
func (d *desk) extent(e api.Extent, at int) []api.Read {
	var l []api.Read
	for k := range e.Len {
		l = append(l, d.block(e.First+k, at))
	}
	return l
}

func (d *desk) view(t *testing.T, at int) *View {
	t.Helper()
	v := New(d.m, d.b, at)
	if v == nil {
		t.Fatalf("New at %d is nil", at)
	}
	checkView(t, v, at, nil)
	return v
}

// told is what was read in short.
func told(l []api.Read) string {
	s := ""
	for _, r := range l {
		s += fmt.Sprintf(" %d/%x/%v", r.LBA, r.Data, r.Own)
	}
	return s
}

func sameReads(l, o []api.Read) bool {
	return slices.EqualFunc(l, o, func(p, q api.Read) bool {
		return p.LBA == q.LBA && p.Own == q.Own && bytes.Equal(p.Data, q.Data)
	})
}

// extents are those of all blocks that were read, by another hand.
func extents(l []api.Read) []api.Extent {
	var lbas []int
	for _, r := range l {
		lbas = append(lbas, r.LBA)
	}
	slices.Sort(lbas)
	var all []api.Extent
	for _, lba := range slices.Compact(lbas) {
		if n := len(all); n > 0 && all[n-1].First+all[n-1].Len == lba {
			all[n-1].Len++
		} else {
			all = append(all, x(lba, 1))
		}
	}
	return all
}

func checkSet(t *testing.T, v *View, want ...api.Extent) {
	t.Helper()
	s := v.Set()
	if s == nil {
		t.Fatal("Set is nil")
	}
	n := 0
	for _, e := range want {
		n += e.Len
	}
	if got := s.Extents(); !slices.Equal(got, want) || s.Count() != n {
		t.Fatalf("Set = %v of %d blocks, want %v", got, s.Count(), want)
	}
}

// checkView holds all that a view tells to what it should have read.
func checkView(t *testing.T, v *View, at int, want []api.Read) {
	t.Helper()
	if got := v.Reads(); !sameReads(got, want) {
		t.Fatalf("Reads =%s\nwant%s", told(got), told(want))
	}
	checkSet(t, v, extents(want)...)
	if got := v.At(); got != at {
		t.Fatalf("At = %d, want %d", got, at)
	}
}

// checkRead reads, and tells that the view has read that and nothing else from there on.
func checkRead(t *testing.T, v *View, e api.Extent, want ...api.Read) {
	t.Helper()
	before, at := v.Reads(), v.At()
	got, code := v.Read(e)
	if code != api.OK {
		t.Fatalf("Read(%v) = %d, behind %v", e, code, v.Set().Extents())
	}
	var all []byte
	for _, r := range want {
		all = append(all, r.Data...)
	}
	if len(got) != e.Len*size || !bytes.Equal(got, all) {
		t.Fatalf("Read(%v) = %x\nwant %x", e, got, all)
	}
	checkView(t, v, at, append(before, want...))
}

// checkRefused tells that a Read is refused, and that nothing is added by it.
func checkRefused(t *testing.T, v *View, want api.Errno, e api.Extent) {
	t.Helper()
	before, at := v.Reads(), v.At()
	if got, code := v.Read(e); code != want || len(got) != 0 {
		t.Fatalf("Read(%v) = %x, %d, want none, %d, behind %v", e, got, code, want, v.Set().Extents())
	}
	checkView(t, v, at, before)
}

// times are some that a view may have, around those that are applied.
func times() []int {
	return []int{math.MinInt, math.MinInt + 1, -1 << 40, -1 << 32, -5, -1, 0, 1, 2, 3, 4, 5, 6, 7, 8, 9, 255, 256, 1 << 32, 1<<32 + 3, 1<<40 - 1, 1 << 40, 1<<40 + 1, math.MaxInt - 1, math.MaxInt}
}

// lens are those that no Read may have.
func lens() []int {
	return []int{0, -1, -2, -15, -16, -17, -255, -256, -1 << 32, -1<<32 + 1, math.MinInt + 1, math.MinInt, 17, 18, 32, 40, 64, 256, 257, greatest, greatest + 1, 1<<32 + 1, 1 << 40, math.MaxInt - 1, math.MaxInt}
}

// beyond are extents with a Len that may be, of which a block isn't the map's.
func beyond(blocks int) []api.Extent {
	var l []api.Extent
	for n := 1; n <= widest; n++ {
		for _, first := range []int{-1, -n, -n - 1, -blocks, -256, -1 << 32, -1<<32 + 1, math.MinInt, math.MinInt + 1, blocks - n + 1, blocks, blocks + 1, blocks + 256, 2 * blocks, greatest + 1, 1 << 32, 1<<32 + 1, 1 << 40, 1 << 62, math.MaxInt - n, math.MaxInt - n + 1, math.MaxInt - 1, math.MaxInt} {
			if first < 0 || first > blocks-n {
				l = append(l, x(first, n))
			}
		}
	}
	return l
}

// nobodys are the nil View and the zero one.
func nobodys() []*View { return []*View{nil, {}} }

func TestP15_1New(t *testing.T) {
	newest := func(at int, l ...int) int {
		time := 0
		for _, k := range l {
			if k <= at {
				time = k
			}
		}
		return time
	}
	read := func(lba, time int) api.Read {
		if time == 0 {
			return none(lba)
		}
		return of(lba, time)
	}
	for _, at := range times() {
		d := laid(t, 20)
		d.apply(t, 2, 3, 4, 19)
		d.apply(t, 4, 3, 5)
		d.apply(t, 7, 0, 3, 4)
		d.write(t, 1, 8)
		v := d.view(t, at)
		checkRead(t, v, x(2, 7), none(2), read(3, newest(at, 2, 4, 7)), read(4, newest(at, 2, 7)), read(5, newest(at, 4)), none(6), none(7), own(8, 1))
		checkRead(t, v, x(0, 1), read(0, newest(at, 7)))
		checkRead(t, v, x(19, 1), read(19, newest(at, 2)))
	}
}

func TestP15_1NewByHand(t *testing.T) {
	d := laid(t, 10)
	d.apply(t, 2, 3)
	d.apply(t, 4, 3)
	d.apply(t, 7, 3)
	checkRead(t, d.view(t, 1), x(3, 1), none(3)) // below the first one
	checkRead(t, d.view(t, 2), x(3, 1), of(3, 2))
	checkRead(t, d.view(t, 6), x(3, 1), of(3, 4)) // between
	checkRead(t, d.view(t, 7), x(3, 1), of(3, 7))
	checkRead(t, d.view(t, 8), x(3, 1), of(3, 7)) // above the last one
}

func TestP15_1NewWithout(t *testing.T) {
	d := laid(t, 10)
	d.apply(t, 1, 3)
	d.write(t, 1, 3)
	for _, at := range times() {
		if New(nil, d.b, at) != nil || New(d.m, nil, at) != nil || New(nil, nil, at) != nil {
			t.Fatalf("a View at %d without a map or a buffer", at)
		}
	}
}

// Nothing has been applied, nothing written: each block is 40 zero bytes.
func TestP15_1NewOfNothing(t *testing.T) {
	for _, at := range times() {
		v := laid(t, 20).view(t, at)
		checkRead(t, v, x(0, 2), none(0), none(1))
		checkRead(t, v, x(19, 1), none(19))
	}
}

// The view uses the two that it was made with, whatever comes to them behind.
func TestP15_1NewUsesBoth(t *testing.T) {
	d := laid(t, 10)
	v := d.view(t, 5)
	d.apply(t, 3, 1, 2)
	checkRead(t, v, x(1, 2), of(1, 3), of(2, 3))
	d.apply(t, 5, 1)
	checkRead(t, v, x(1, 2), of(1, 5), of(2, 3))
	d.apply(t, 6, 1, 2)
	checkRead(t, v, x(1, 2), of(1, 5), of(2, 3))
	d.write(t, 1, 2)
	checkRead(t, v, x(1, 2), of(1, 5), own(2, 1))
}

// The zero Map has no blocks, the zero Buf no writes.
func TestP15_1NewOfZeros(t *testing.T) {
	d := laid(t, 10)
	d.apply(t, 1, 3)
	v := New(&extmap.Map{}, d.b, 1)
	for _, e := range append(beyond(0), x(0, 1), x(0, 16)) {
		checkRefused(t, v, errRange, e)
	}
	for _, n := range lens() {
		checkRefused(t, v, errLen, x(0, n))
	}
	checkRead(t, New(d.m, &wbuf.Buf{}, 1), x(2, 2), none(2), of(3, 1))
}

// Every extent of a map with some blocks of each kind, each on a view of its own and all on one.
func TestP15_1ReadEveryExtent(t *testing.T) {
	const blocks = 40
	d := laid(t, blocks)
	for lba := range blocks {
		if lba%3 == 0 {
			d.apply(t, lba+1, lba)
		}
		if lba%5 == 1 {
			d.write(t, 1, lba)
		}
	}
	all := New(d.m, d.b, 30)
	for n := 1; n <= widest; n++ {
		for first := range blocks - n + 1 {
			e := x(first, n)
			checkRead(t, d.view(t, 30), e, d.extent(e, 30)...)
			checkRead(t, all, e, d.extent(e, 30)...)
		}
	}
}

func TestP15_1ReadAtTheEnds(t *testing.T) {
	for _, blocks := range []int{1, 2, 3, 15, 16, 17, 18, 200, greatest - 1, greatest} {
		for n := 1; n <= min(widest, blocks); n++ {
			d := laid(t, blocks)
			d.apply(t, 1, 0)
			d.apply(t, 2, blocks-1)
			first, last := x(0, n), x(blocks-n, n)
			checkRead(t, d.view(t, 2), first, d.extent(first, 2)...)
			v := d.view(t, 2)
			checkRead(t, v, last, d.extent(last, 2)...)
			checkRefused(t, v, errRange, x(blocks-n+1, n))
			checkRefused(t, v, errRange, x(-1, n))
			d.write(t, 1, blocks-1)
			checkRead(t, v, last, d.extent(last, 2)...)
			checkRead(t, v, x(blocks-1, 1), own(blocks-1, 1))
		}
		if blocks < widest {
			checkRefused(t, laid(t, blocks).view(t, 2), errRange, x(0, blocks+1))
		}
	}
}

func TestP15_1ReadByHand(t *testing.T) {
	d := laid(t, 200)
	d.apply(t, 1, 1, 2)
	v := d.view(t, 1)
	d.write(t, 1, 2, 3)
	d.apply(t, 2, 1, 4)
	checkRead(t, v, x(0, 5), none(0), of(1, 1), own(2, 1), own(3, 1), none(4))
	checkRead(t, v, x(2, 1), own(2, 1))
	checkRead(t, v, x(1, 1), of(1, 1))
	checkRead(t, v, x(0, 1), none(0))
	checkRead(t, v, x(3, 2), own(3, 1), none(4))
	checkSet(t, v, x(0, 5))
}

// Each block of an extent in neither, in the map, in the buffer or in both, in every row.
func TestP15_1ReadEveryRow(t *testing.T) {
	const n = 5
	for _, first := range []int{0, 7, 20 - n} {
		for row := range 1 << (2 * n) {
			d := laid(t, 20)
			var want []api.Read
			for k := range n {
				lba, r := first+k, none(first+k)
				if row>>(2*k)&1 == 1 {
					d.apply(t, k+1, lba)
					r = of(lba, k+1)
				}
				if row>>(2*k)&2 == 2 {
					d.write(t, 1, lba)
					r = own(lba, 1)
				}
				want = append(want, r)
			}
			checkRead(t, d.view(t, n), x(first, n), want...)
		}
	}
}

// What was written, also of zeros, is the transaction's own.
func TestP15_1ReadAnyBytes(t *testing.T) {
	for _, c := range []byte{0, 1, 127, 128, 255} {
		d := laid(t, 10)
		same := bytes.Repeat([]byte{c}, size)
		d.m.Apply(api.Tx{Time: 1, Puts: []api.Put{{LBA: 3, Data: same}, {LBA: 4, Data: same}}})
		d.b.Write(api.Put{LBA: 4, Data: same}, api.Put{LBA: 5, Data: same})
		checkRead(t, d.view(t, 1), x(2, 5), none(2), api.Read{LBA: 3, Data: same}, api.Read{LBA: 4, Data: same, Own: true}, api.Read{LBA: 5, Data: same, Own: true}, none(6))
	}
}

func TestP15_1ReadWritten(t *testing.T) {
	d := laid(t, 10)
	d.apply(t, 1, 2, 3, 4)
	d.write(t, 1, 2, 5) // ahead of the view
	d.write(t, 2, 5)    // twice, both ahead
	v := d.view(t, 1)
	d.write(t, 3, 3, 6, 7) // behind it
	d.write(t, 4, 6)       // twice, both behind
	checkRead(t, v, x(1, 8), none(1), own(2, 1), own(3, 3), of(4, 1), own(5, 2), own(6, 4), own(7, 3), none(8))
	d.write(t, 5, 2, 7) // twice, once behind a read
	checkRead(t, v, x(1, 8), none(1), own(2, 5), own(3, 3), of(4, 1), own(5, 2), own(6, 4), own(7, 5), none(8))
}

// A buffer may be for more blocks or fewer than the map has: the map's are those that are read.
func TestP15_1ReadBufferOfAnotherSize(t *testing.T) {
	d := laid(t, 10)
	d.apply(t, 1, 3, 9)
	wide, _ := wbuf.New(20, 9)
	wide.Write(api.Put{LBA: 9, Data: own(9, 1).Data}, api.Put{LBA: 10, Data: own(10, 1).Data}, api.Put{LBA: 15, Data: own(15, 1).Data})
	v := New(d.m, wide, 1)
	checkRefused(t, v, errRange, x(10, 1))
	checkRefused(t, v, errRange, x(15, 1))
	checkRefused(t, v, errRange, x(9, 2))
	checkRead(t, v, x(8, 2), none(8), own(9, 1))
	small, _ := wbuf.New(5, 9)
	small.Write(api.Put{LBA: 4, Data: own(4, 1).Data})
	checkRead(t, New(d.m, small, 1), x(3, 7), of(3, 1), own(4, 1), none(5), none(6), none(7), none(8), of(9, 1))
}

func TestP15_1ReadJoins(t *testing.T) {
	for _, c := range []struct {
		l    []api.Extent
		want []api.Extent
	}{
		{list(x(5, 3)), list(x(5, 3))},
		{list(x(5, 3), x(5, 3)), list(x(5, 3))}, // the same one
		{list(x(5, 3), x(6, 1)), list(x(5, 3))}, // within
		{list(x(6, 1), x(5, 3)), list(x(5, 3))}, // around
		{list(x(5, 3), x(7, 3)), list(x(5, 5))}, // overlaps at its end
		{list(x(5, 3), x(3, 3)), list(x(3, 5))}, // and at its beginning
		{list(x(5, 3), x(8, 2)), list(x(5, 5))}, // touches
		{list(x(5, 3), x(3, 2)), list(x(3, 5))},
		{list(x(5, 3), x(9, 2)), list(x(5, 3), x(9, 2))}, // one block lies between
		{list(x(5, 3), x(2, 2)), list(x(2, 2), x(5, 3))},
		{list(x(5, 3), x(9, 2), x(8, 1)), list(x(5, 6))}, // that block
		{list(x(5, 3), x(12, 2), x(6, 8)), list(x(5, 9))},
		{list(x(1, 1), x(3, 1), x(5, 1), x(7, 1)), list(x(1, 1), x(3, 1), x(5, 1), x(7, 1))},
		{list(x(1, 1), x(3, 1), x(5, 1), x(7, 1), x(2, 5)), list(x(1, 7))},
		{list(x(7, 1), x(5, 1), x(3, 1), x(1, 1), x(4, 1)), list(x(1, 1), x(3, 3), x(7, 1))},
		{list(x(24, 16), x(8, 16)), list(x(8, 32))}, // wider than one Read
		{list(x(0, 16), x(16, 16), x(32, 8)), list(x(0, 40))},
		{list(x(39, 1), x(0, 1)), list(x(0, 1), x(39, 1))},
	} {
		d := laid(t, 40)
		d.apply(t, 1, 0, 5, 9, 39)
		d.write(t, 1, 6, 12) // one's own writes are read, too
		v := d.view(t, 1)
		for _, e := range c.l {
			checkRead(t, v, e, d.extent(e, 1)...)
		}
		checkSet(t, v, c.want...)
	}
}

// full has read 64 blocks, each of them apart: 2, 4, 6, .. 128.
func full(t *testing.T, step int) (*desk, *View) {
	t.Helper()
	d := laid(t, 200)
	d.apply(t, 1, 4, 5, 199)
	d.write(t, 1, 6, 7, 8)
	v := d.view(t, 1)
	for k := range most {
		e := x(2+2*(k*step%most), 1)
		checkRead(t, v, e, d.extent(e, 1)...)
	}
	if got := len(v.Set().Extents()); got != most {
		t.Fatalf("%d extents", got)
	}
	return d, v
}

func TestP15_1ReadFull(t *testing.T) {
	for _, step := range []int{1, most - 1, 27} { // forth, back, strewn
		d, v := full(t, step)
		for _, e := range list(x(0, 1), x(130, 1), x(150, 1), x(199, 1), x(184, 16), x(131, 16), x(130, 16)) {
			checkRefused(t, v, errBig, e)
		}
		for _, e := range list(x(2, 1), x(64, 1), x(128, 1)) { // lie in one
			checkRead(t, v, e, d.extent(e, 1)...)
		}
		for _, e := range list(x(1, 1), x(0, 2), x(129, 1), x(128, 4)) { // widen one
			checkRead(t, v, e, d.extent(e, 1)...)
		}
		checkRefused(t, v, errBig, x(133, 1))
		checkRead(t, v, x(7, 1), own(7, 1)) // joins two
		checkRead(t, v, x(199, 1), of(199, 1))
		checkRefused(t, v, errBig, x(150, 1))
		checkRefused(t, v, errBig, x(150, 16))
		checkRead(t, v, x(4, 5), d.extent(x(4, 5), 1)...) // joins three
		checkRead(t, v, x(150, 1), none(150))
		checkRefused(t, v, errBig, x(160, 1))
		if got := len(v.Set().Extents()); got != most {
			t.Fatalf("%d extents", got)
		}
	}
}

// One that joins many leaves room for as many others.
func TestP15_1ReadFullAndJoined(t *testing.T) {
	d, v := full(t, 1)
	checkRead(t, v, x(20, 15), d.extent(x(20, 15), 1)...) // eight are one from here on
	for k := range 7 {
		checkRead(t, v, x(140+2*k, 1), none(140+2*k))
	}
	checkRefused(t, v, errBig, x(160, 1))
	checkRefused(t, v, errBig, x(0, 1))
	checkRead(t, v, x(141, 1), none(141))
	checkRead(t, v, x(160, 1), none(160))
	checkRefused(t, v, errBig, x(0, 1))
}

// The 64th one is the last one, however wide they are and wherever the 65th would lie.
func TestP15_1ReadManyExtents(t *testing.T) {
	for _, n := range []int{1, 2, widest} {
		for _, gap := range []int{1, 2, 30} {
			d := laid(t, most*(n+gap)+n+1)
			v := d.view(t, 0)
			for k := range most {
				e := x(1+k*(n+gap), n)
				checkRead(t, v, e, d.extent(e, 0)...)
				if len(v.Set().Extents()) != k+1 {
					t.Fatalf("%d extents, want %d", len(v.Set().Extents()), k+1)
				}
			}
			checkRefused(t, v, errBig, x(1+most*(n+gap), 1))
			checkRefused(t, v, errBig, x(1+most*(n+gap), n))
			if gap > 2 { // between two of them, touching neither
				checkRefused(t, v, errBig, x(1+n+1, 1))
				checkRefused(t, v, errBig, x(1+5*(n+gap)+n+1, widest))
			}
		}
	}
}

func TestP15_1ReadExamples(t *testing.T) {
	v := laid(t, 200).view(t, 1)
	checkRefused(t, v, errLen, x(0, 17))
	checkRefused(t, v, errRange, x(199, 2))
}

// busy is a view that has read some blocks of each kind.
func busy(t *testing.T, blocks int) *View {
	t.Helper()
	d := laid(t, blocks)
	d.apply(t, 1, 1, 2)
	d.write(t, 1, 2, 3)
	v := d.view(t, 1)
	checkRead(t, v, x(0, 5), none(0), of(1, 1), own(2, 1), own(3, 1), none(4))
	checkRead(t, v, x(7, 1), none(7))
	return v
}

func TestP15_1ReadLens(t *testing.T) {
	for _, v := range []*View{laid(t, 200).view(t, 1), busy(t, 200), laid(t, greatest).view(t, 1)} {
		for _, n := range lens() {
			for _, first := range []int{0, 1, 2, 5, 100, 183, 184} {
				checkRefused(t, v, errLen, x(first, n))
			}
		}
	}
	v := laid(t, 1).view(t, 1) // fewer blocks than a Read may have
	for _, n := range lens() {
		checkRefused(t, v, errLen, x(0, n))
	}
}

func TestP15_1ReadOutside(t *testing.T) {
	for _, blocks := range []int{8, 10, 16, 200, 256, 257, greatest - 1, greatest} {
		fresh, v := laid(t, blocks).view(t, 1), busy(t, blocks)
		for _, e := range beyond(blocks) {
			checkRefused(t, fresh, errRange, e)
			checkRefused(t, v, errRange, e)
		}
	}
	for _, e := range beyond(1) {
		checkRefused(t, laid(t, 1).view(t, 1), errRange, e)
	}
}

// Of several errors the chapter's first one is told, on a full read set and on an empty one.
func TestP15_1ReadFirstError(t *testing.T) {
	_, v := full(t, 1)
	fresh := laid(t, 200).view(t, 1)
	firsts := []int{math.MinInt, -1 << 32, -17, -16, -1, 200, 201, 1 << 32, math.MaxInt - 16, math.MaxInt - 1, math.MaxInt, 150, 184, 199}
	for _, first := range firsts {
		for _, n := range lens() { // wrong by their Len, whatever else is
			checkRefused(t, v, errLen, x(first, n))
			checkRefused(t, fresh, errLen, x(first, n))
		}
		if first >= 0 && first < 200 {
			continue
		}
		for n := 1; n <= widest; n++ { // out of range, and one extent too many
			checkRefused(t, v, errRange, x(first, n))
			checkRefused(t, fresh, errRange, x(first, n))
		}
	}
	for _, c := range []struct {
		want api.Errno
		e    api.Extent
	}{
		{errLen, x(-1, 0)}, {errLen, x(-1, 17)}, {errLen, x(200, 17)}, {errLen, x(199, 0)}, {errLen, x(150, 17)}, {errLen, x(150, 0)}, {errLen, x(150, -1)},
		{errRange, x(-1, 1)}, {errRange, x(199, 2)}, {errRange, x(190, 11)}, {errRange, x(200, 1)}, {errRange, x(-3, 16)},
		{errBig, x(190, 10)}, {errBig, x(199, 1)}, {errBig, x(150, 16)},
	} {
		checkRefused(t, v, c.want, c.e)
		if c.want != errBig {
			checkRefused(t, fresh, c.want, c.e)
		}
	}
}

// Behind each of the errors the view goes on as if there had been none.
func TestP15_1ReadBehindErrors(t *testing.T) {
	d := laid(t, 200)
	d.apply(t, 1, 3, 4)
	d.write(t, 1, 4, 9)
	v := d.view(t, 1)
	for k := range most {
		checkRefused(t, v, errLen, x(3, 0))
		checkRefused(t, v, errLen, x(3, 17))
		checkRefused(t, v, errRange, x(199, 2))
		e := x(3*k, 1+k%2)
		checkRead(t, v, e, d.extent(e, 1)...)
	}
	checkRefused(t, v, errBig, x(195, 1))
	checkRead(t, v, x(3, 7), d.extent(x(3, 7), 1)...)
	checkRead(t, v, x(195, 1), none(195))
}

func TestP15_2Nobody(t *testing.T) {
	for _, v := range nobodys() {
		for range 2 {
			for _, n := range lens() {
				for _, first := range []int{0, 1, -1, 5, math.MinInt, math.MaxInt} {
					checkRefused(t, v, errLen, x(first, n))
				}
			}
			for _, e := range append(beyond(0), x(0, 1), x(0, 16), x(1, 1), x(100, 3), x(greatest-1, 1)) {
				checkRefused(t, v, errRange, e)
			}
			if v.At() != 0 || len(v.Reads()) != 0 {
				t.Fatalf("At %d, %v", v.At(), v.Reads())
			}
			checkSet(t, v)
			v.Set().Add(x(0, 3)) // the next one is another set
			checkSet(t, v)
		}
	}
}

func TestP15_2Set(t *testing.T) {
	d := laid(t, 200)
	d.apply(t, 1, 3, 4)
	d.write(t, 1, 4, 9)
	v := d.view(t, 1)
	checkSet(t, v) // ahead of any Read
	v.Read(x(8, 2))
	checkSet(t, v, x(8, 2)) // behind one
	v.Read(x(3, 1))
	checkSet(t, v, x(3, 1), x(8, 2))
	v.Read(x(8, 2))
	checkSet(t, v, x(3, 1), x(8, 2))
	v.Read(x(184, 16))
	v.Read(x(4, 2))
	checkSet(t, v, x(3, 3), x(8, 2), x(184, 16))
	v.Read(x(5, 4))
	checkSet(t, v, x(3, 7), x(184, 16))
	v.Read(x(0, 1))
	v.Read(x(199, 2))
	v.Read(x(50, 17))
	checkSet(t, v, x(0, 1), x(3, 7), x(184, 16))
	for k := range 50 { // behind many
		v.Read(x(20+2*k, 1))
	}
	want := list(x(0, 1), x(3, 7))
	for k := range 50 {
		want = append(want, x(20+2*k, 1))
	}
	checkSet(t, v, append(want, x(184, 16))...)
}

// It tells and takes in what any set of chapter 11 does.
func TestP15_2SetIsOne(t *testing.T) {
	v := busy(t, 200)
	s, o := v.Set(), ival.New(1)
	if code := o.Add(x(5, 3)); code != api.OK {
		t.Fatalf("Add = %d", code)
	}
	if !s.Has(7) || !s.Has(2) || s.Has(5) || !s.Meets(x(4, 3)) || s.Meets(x(5, 2)) || !s.Crosses(o) || !o.Crosses(s) {
		t.Errorf("%v", s.Extents())
	}
	if code := s.Add(x(6, 1), x(20, 3), x(100, 1)); code != api.OK {
		t.Errorf("Add = %d", code)
	}
	if got := s.Extents(); !slices.Equal(got, list(x(0, 5), x(6, 2), x(20, 3), x(100, 1))) {
		t.Errorf("Extents = %v", got)
	}
}

func TestP15_2Reads(t *testing.T) {
	d := laid(t, 20)
	d.apply(t, 1, 1, 2, 9)
	d.write(t, 1, 2, 3)
	v := d.view(t, 1)
	var want []api.Read
	check := func() {
		t.Helper()
		for range 2 {
			if got := v.Reads(); !sameReads(got, want) {
				t.Fatalf("Reads =%s\nwant%s", told(got), told(want))
			}
		}
	}
	check()
	v.Read(x(9, 1))
	want = append(want, of(9, 1))
	check()
	v.Read(x(1, 3)) // lesser blocks behind greater ones
	want = append(want, of(1, 1), own(2, 1), own(3, 1))
	check()
	v.Read(x(2, 1)) // again
	want = append(want, own(2, 1))
	check()
	v.Read(x(0, 3)) // overlapping
	want = append(want, none(0), of(1, 1), own(2, 1))
	check()
	v.Read(x(19, 2))
	v.Read(x(2, 0))
	v.Read(x(0, 17))
	check()
	d.write(t, 2, 1, 2) // what was read stays as it was when it was read
	check()
	v.Read(x(0, 4))
	want = append(want, none(0), own(1, 2), own(2, 2), own(3, 1))
	check()
}

// One block, read once a writing: each of the reads is told with what it found.
func TestP15_2ReadsOfOneBlock(t *testing.T) {
	d := laid(t, 20)
	d.apply(t, 1, 5)
	v := d.view(t, 1)
	var want []api.Read
	for nth := range 100 {
		v.Read(x(5, 1))
		if nth == 0 {
			want = append(want, of(5, 1))
		} else {
			want = append(want, own(5, nth-1))
		}
		d.write(t, nth, 5)
		checkView(t, v, 1, want)
	}
}

func TestP15_2ReadsMany(t *testing.T) {
	d := laid(t, 64)
	for lba := range 64 {
		if lba%2 == 0 {
			d.apply(t, lba+1, lba)
		}
		if lba%3 == 0 {
			d.write(t, 1, lba)
		}
	}
	v := d.view(t, 50)
	var want []api.Read
	for k := range 2000 {
		e := x(k*7%49, 1+k%16)
		if _, code := v.Read(e); code != api.OK {
			t.Fatalf("Read(%v) = %d", e, code)
		}
		want = append(want, d.extent(e, 50)...)
	}
	checkView(t, v, 50, want)
}

func TestP15_2At(t *testing.T) {
	d := laid(t, 20)
	d.apply(t, 3, 3)
	for _, at := range times() {
		v := d.view(t, at)
		for range 2 {
			if got := v.At(); got != at {
				t.Fatalf("At = %d, want %d", got, at)
			}
			v.Read(x(2, 3))
			v.Read(x(19, 2))
			v.Read(x(0, 0))
			d.apply(t, d.m.Last()+1, 3)
		}
	}
}

func TestP15_3LaterAppliesChangeNothing(t *testing.T) {
	for at := range 12 {
		d := laid(t, 10)
		d.apply(t, 2, 1, 3)
		d.apply(t, 5, 3, 4)
		d.apply(t, 9, 1)
		d.write(t, 1, 6)
		v := d.view(t, at)
		want := d.extent(x(0, 8), at)
		checkRead(t, v, x(0, 8), want...)
		for time := max(10, at+1); time < 20; time++ {
			d.apply(t, time, 1, 3, 4, 5, 6)
			checkRead(t, v, x(0, 8), want...)
		}
		d.apply(t, 1<<40, 0, 1, 2, 3, 4, 5, 6, 7)
		checkRead(t, v, x(0, 8), want...)
		checkRead(t, v, x(6, 1), own(6, 1))
	}
}

// Nor does pruning up to the view's time.
func TestP15_3PruneChangesNothing(t *testing.T) {
	for at := range 9 {
		d := laid(t, 10)
		d.apply(t, 2, 1, 3)
		d.apply(t, 4, 1, 3, 4)
		d.apply(t, 7, 1)
		v := d.view(t, at)
		want := d.extent(x(0, 6), at)
		for horizon := range at + 1 {
			checkRead(t, v, x(0, 6), want...)
			d.m.Prune(horizon)
			checkRead(t, v, x(0, 6), want...)
		}
	}
}

func TestP15_3WritesAreReadAtOnce(t *testing.T) {
	d := laid(t, 10)
	d.apply(t, 1, 3, 4)
	v := d.view(t, 1)
	checkRead(t, v, x(2, 4), none(2), of(3, 1), of(4, 1), none(5))
	for nth := range 30 {
		d.write(t, nth, 3)
		checkRead(t, v, x(3, 1), own(3, nth))
		d.apply(t, nth+2, 3, 4, 5)
		checkRead(t, v, x(2, 4), none(2), own(3, nth), of(4, 1), none(5))
		d.b.Write(api.Put{LBA: 4, Data: data(4, 9)}, api.Put{LBA: 4, Data: data(4, 9)}) // refused, so it is not read
		d.b.Write(api.Put{LBA: 5, Data: data(5, 9)[:39]})
		checkRead(t, v, x(3, 3), own(3, nth), of(4, 1), none(5))
	}
	d.write(t, 99, 2, 5)
	checkRead(t, v, x(2, 4), own(2, 99), own(3, 29), of(4, 1), own(5, 99))
}

// kept is all that a map and a buffer tell.
func kept(d *desk) string {
	s := fmt.Sprint(d.m.Blocks(), d.m.Last(), d.m.Versions(), d.m.Used(), d.m.Dump(), d.b.Len(), d.b.Puts(), d.b.Set().Extents())
	for at := range 9 {
		all, code := d.m.Range(x(0, d.m.Blocks()), at)
		s += fmt.Sprint(at, all, code)
	}
	return s
}

func TestP15_3ArgumentsStay(t *testing.T) {
	d := laid(t, 200)
	d.apply(t, 2, 1, 3)
	d.apply(t, 4, 1, 4)
	d.write(t, 1, 3, 9)
	before := kept(d)
	for _, at := range []int{0, 2, 3, 4, 8} {
		v := d.view(t, at)
		for k := range 70 {
			v.Read(x(2*k, 1+k%2))
		}
		for _, e := range list(x(0, 16), x(184, 16), x(185, 16), x(-1, 1), x(0, 17), x(0, 0)) {
			got, _ := v.Read(e)
			spoilBytes(got)
		}
		v.Set().Add(x(0, 200))
		spoil(v.Reads())
		if after := kept(d); after != before {
			t.Fatalf("%s\nturns to\n%s", before, after)
		}
	}
}

func spoilBytes(b []byte) {
	for k := range b[:cap(b)] {
		b[:cap(b)][k] ^= 0xff
	}
}

// spoil changes all that a list of reads reaches.
func spoil(l []api.Read) {
	whole := l[:cap(l)]
	for k, r := range whole {
		spoilBytes(r.Data)
		whole[k] = api.Read{LBA: 500 + k, Data: bytes.Repeat([]byte{99}, size), Own: !r.Own}
	}
}

func TestP15_3ResultsAreNew(t *testing.T) {
	d := laid(t, 200)
	d.apply(t, 1, 1, 2)
	d.write(t, 1, 2, 3)
	v := d.view(t, 1)
	want := []api.Read{none(0), of(1, 1), own(2, 1), own(3, 1), none(4)}

	one, _ := v.Read(x(0, 5))
	spoilBytes(one) // right behind the call that told it
	checkView(t, v, 1, want)
	checkRead(t, v, x(0, 5), want...)
	want = slices.Concat(want, want)
	for _, r := range []api.Read{none(0), of(1, 1), own(2, 1)} { // a single block, too
		one, _ = v.Read(x(r.LBA, 1))
		spoilBytes(one)
		want = append(want, r)
		checkView(t, v, 1, want)
	}

	reads := v.Reads()
	spoil(v.Reads())
	if !sameReads(reads, want) {
		t.Errorf("two that Reads returned share:%s", told(reads))
	}
	checkView(t, v, 1, want)

	for k := range want { // no two Data of one answer share
		l := v.Reads()
		spoilBytes(l[k].Data)
		if !sameReads(slices.Delete(l, k, k+1), slices.Delete(slices.Clone(want), k, k+1)) {
			t.Errorf("the Data of %d is shared", k)
		}
	}
	checkView(t, v, 1, want)

	s, o := v.Set(), v.Set()
	if s.Add(x(0, 190)) != api.OK || o.Count() != 5 {
		t.Errorf("two that Set returned share: %v", o.Extents())
	}
	l := v.Set().Extents()
	l[0] = x(7, 7)
	checkView(t, v, 1, want)
	checkRead(t, v, x(0, 5), want[:5]...)
}

// What is added to a list that was returned doesn't come up in the view, nor in the next one.
func TestP15_3ResultsAreNewToTheirEnd(t *testing.T) {
	v := busy(t, 200)
	before := v.Reads()
	l := append(v.Reads(), of(77, 7))
	checkRead(t, v, x(9, 1), none(9))
	checkView(t, v, 1, append(before, none(9)))
	if !sameReads(l[len(l)-1:], []api.Read{of(77, 7)}) {
		t.Errorf("it turns to%s", told(l[len(l)-1:]))
	}
	got, _ := v.Read(x(0, 3))
	longer := append(got, data(5, 5)...)
	v.Read(x(0, 5))
	if !bytes.Equal(longer[3*size:], data(5, 5)) {
		t.Errorf("it turns to %x", longer[3*size:])
	}
}

// What was returned stays as it was, whatever is read, written and applied behind it.
func TestP15_3ResultsStay(t *testing.T) {
	d := laid(t, 200)
	d.apply(t, 1, 1, 2)
	d.write(t, 1, 2, 3)
	v := d.view(t, 5)
	want := []api.Read{none(0), of(1, 1), own(2, 1), own(3, 1), none(4)}
	got, _ := v.Read(x(0, 5))
	reads, set := v.Reads(), v.Set()
	d.apply(t, 5, 0, 1, 4)
	d.write(t, 2, 2, 3, 4)
	v.Read(x(0, 8))
	v.Read(x(20, 8))
	var all []byte
	for _, r := range want {
		all = append(all, r.Data...)
	}
	if !bytes.Equal(got, all) || !sameReads(reads, want) || !slices.Equal(set.Extents(), list(x(0, 5))) {
		t.Errorf("they turn to %x,%s, %v", got, told(reads), set.Extents())
	}
}

func TestP15_3StandApart(t *testing.T) {
	d := laid(t, 20)
	d.apply(t, 1, 3)
	d.apply(t, 2, 3)
	d.write(t, 1, 4)
	a, b, c := d.view(t, 1), d.view(t, 2), d.view(t, 2) // on one map and one buffer
	checkRead(t, a, x(3, 2), of(3, 1), own(4, 1))
	checkView(t, b, 2, nil)
	checkRead(t, b, x(2, 2), none(2), of(3, 2))
	checkView(t, a, 1, []api.Read{of(3, 1), own(4, 1)})
	checkView(t, c, 2, nil)
	checkRead(t, c, x(9, 1), none(9))
	checkView(t, b, 2, []api.Read{none(2), of(3, 2)})

	other, _ := wbuf.New(20, 9) // on one map, each on a buffer of its own
	f := New(d.m, other, 2)
	checkRead(t, f, x(3, 2), of(3, 2), none(4))
	other.Write(api.Put{LBA: 3, Data: own(3, 7).Data})
	checkRead(t, f, x(3, 1), own(3, 7))
	checkRead(t, b, x(3, 1), of(3, 2))

	e := laid(t, 20).view(t, 2) // on none of the same
	checkRead(t, e, x(3, 2), none(3), none(4))
}

// A full read set of one leaves the other's room.
func TestP15_3StandApartWhenFull(t *testing.T) {
	d, v := full(t, 1)
	o := New(d.m, d.b, 1)
	for k := range most {
		e := x(3+2*k, 1)
		checkRead(t, o, e, d.extent(e, 1)...)
	}
	checkRefused(t, o, errBig, x(180, 1))
	checkRefused(t, v, errBig, x(180, 1))
	checkRead(t, v, x(3, 1), none(3))
	checkRefused(t, o, errBig, x(180, 1))
	checkRead(t, v, x(180, 1), none(180))
}

// Asking changes nothing.
func TestP15_3AskingChangesNothing(t *testing.T) {
	v := busy(t, 200)
	want := v.Reads()
	for range 3 {
		v.At()
		v.Set()
		v.Reads()
		v.Read(x(0, 0))
		v.Read(x(-1, 1))
		v.Read(x(199, 2))
		checkView(t, v, 1, want)
	}
}

// refused is the chapter's order of words, by another hand: what a view that has read some blocks tells of an extent.
func refused(blocks int, l []api.Read, e api.Extent) api.Errno {
	if e.Len < 1 || e.Len > widest {
		return errLen
	}
	more := slices.Clone(l)
	for k := range e.Len {
		if lba := e.First + k; lba < 0 || lba >= blocks {
			return errRange
		}
		more = append(more, api.Read{LBA: e.First + k})
	}
	if len(extents(more)) > most {
		return errBig
	}
	return api.OK
}

// Thrown calls on several views of one map, each with a buffer of its own, held to another hand's words behind every call.
func TestP15_3Thrown(t *testing.T) {
	codes := map[api.Errno]int{}
	for seed := range 12 {
		throw := dice(uint64(seed))
		blocks := []int{1, 30, 600, greatest}[seed%4]
		first := laid(t, blocks)
		var eyes []*eye
		for range 800 {
			if len(eyes) == 0 || throw(250) == 0 {
				eyes = append(eyes, opened(t, first, throw))
			}
			e := eyes[throw(len(eyes))]
			switch throw(8) {
			case 0:
				lba := throw(min(blocks, 600))
				first.apply(t, first.m.Last()+1+throw(3), lba)
			case 1:
				e.d.write(t, throw(1000), throw(min(blocks, 600)))
			default:
				codes[e.read(t, first, thrown(throw, blocks))]++
			}
			for _, o := range eyes {
				checkView(t, o.v, o.at, o.reads)
			}
		}
	}
	for _, code := range []api.Errno{api.OK, errRange, errLen, errBig} {
		if codes[code] < 50 {
			t.Errorf("the throws are one-sided: %v", codes)
		}
	}
}

// eye is a view, and what it has read by another hand.
type eye struct {
	d     *desk // its buffer; the map is another desk's
	v     *View
	at    int
	reads []api.Read
}

func opened(t *testing.T, first *desk, throw func(int) int) *eye {
	d := laid(t, first.blocks)
	at := first.m.Last() + throw(9) - 4
	return &eye{d: d, v: New(first.m, d.b, at), at: at}
}

func (y *eye) read(t *testing.T, first *desk, e api.Extent) api.Errno {
	t.Helper()
	want := refused(first.blocks, y.reads, e)
	got, code := y.v.Read(e)
	if code != want {
		t.Fatalf("Read(%v) = %d, want %d", e, code, want)
	}
	if code != api.OK {
		if len(got) != 0 {
			t.Fatalf("Read(%v) = %x beside %d", e, got, code)
		}
		return code
	}
	both := &desk{applied: first.applied, written: y.d.written}
	l := both.extent(e, y.at)
	var all []byte
	for _, r := range l {
		all = append(all, r.Data...)
	}
	if !bytes.Equal(got, all) {
		t.Fatalf("Read(%v) = %x\nwant %x", e, got, all)
	}
	y.reads = append(y.reads, l...)
	return code
}

// thrown is an extent, mostly one that may be read.
func thrown(throw func(int) int, blocks int) api.Extent {
	e := x(throw(min(blocks, 600)), 1+throw(2))
	switch throw(16) {
	case 0:
		l := lens()
		e.Len = l[throw(len(l))]
	case 1:
		l := beyond(blocks)
		e = l[throw(len(l))]
	case 2:
		e.Len = 1 + throw(widest)
	case 3:
		e.First = blocks - e.Len
	}
	return e
}

// Every row of three calls on a small map: reads of every extent, among writes and applies.
func TestP15_3AllShortRows(t *testing.T) {
	const blocks = 3
	type step func(t *testing.T, d *desk, y *eye, nth int)
	var steps []step
	for first := -1; first <= blocks; first++ {
		for n := range blocks + 2 {
			e := x(first, n)
			steps = append(steps, func(t *testing.T, d *desk, y *eye, nth int) { y.read(t, d, e) })
		}
	}
	for lba := range blocks {
		steps = append(steps, func(t *testing.T, d *desk, y *eye, nth int) { d.apply(t, nth, lba) })
		steps = append(steps, func(t *testing.T, d *desk, y *eye, nth int) { y.d.write(t, nth, lba) })
	}
	for at := range 3 {
		for _, one := range steps {
			for _, two := range steps {
				for _, three := range steps {
					d := laid(t, blocks)
					y := &eye{d: d, v: New(d.m, d.b, at), at: at}
					one(t, d, y, 1)
					two(t, d, y, 2)
					three(t, d, y, 3)
					checkView(t, y.v, at, y.reads)
				}
			}
		}
	}
}
