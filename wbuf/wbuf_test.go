package wbuf

import (
	"bytes"
	"encoding/binary"
	"fmt"
	"math"
	"slices"
	"testing"

	"scarp/api"
	"scarp/ival"
)

// The chapter's numbers, of their own.
const (
	size       = 40
	greatest   = 1 << 20 // blocks of a buffer
	errArg     = api.Errno(1)
	errRange   = api.Errno(2)
	errLen     = api.Errno(3)
	errOverlap = api.Errno(4)
	errBig     = api.Errno(7)
)

// dice answers numbers, the same ones at each run.
func dice(seed uint64) func(n int) int {
	state := seed
	return func(n int) int {
		state = state*6364136223846793005 + 1442695040888963407
		return int((state >> 33) % uint64(n))
	}
}

// data is 40 bytes, none of them 0, other ones for each block and how-manieth writing of it.
func data(lba, nth int) []byte {
	b := make([]byte, size)
	for i := range b {
		b[i] = byte(lba*31+nth*17+i*7)%255 + 1
	}
	binary.LittleEndian.PutUint64(b[8:], uint64(lba)|1<<63)
	binary.LittleEndian.PutUint64(b[24:], uint64(nth)|1<<63)
	return b
}

// w is a block's nth writing.
func w(lba, nth int) api.Put { return api.Put{LBA: lba, Data: data(lba, nth)} }

// short is one with another number of bytes.
func short(lba, n int) api.Put { return api.Put{LBA: lba, Data: bytes.Repeat([]byte{7}, n)} }

// ws is some blocks' nth writing.
func ws(nth int, blocks ...int) []api.Put {
	var l []api.Put
	for _, lba := range blocks {
		l = append(l, w(lba, nth))
	}
	return l
}

func x(first, n int) api.Extent { return api.Extent{First: first, Len: n} }

func list(l ...api.Extent) []api.Extent { return l }

// made is a buffer with some writes, each of them for itself.
func made(t *testing.T, blocks, most int, l ...api.Put) *Buf {
	t.Helper()
	b, code := New(blocks, most)
	if code != api.OK || b == nil {
		t.Fatalf("New(%d, %d) is refused by %d", blocks, most, code)
	}
	for _, p := range l {
		checkWrite(t, b, api.OK, p)
	}
	return b
}

// told is a vector in short.
func told(l []api.Put) string {
	s := ""
	for _, p := range l {
		s += fmt.Sprint(" ", p.LBA, "/", len(p.Data))
	}
	return s
}

func checkWrite(t *testing.T, b *Buf, want api.Errno, l ...api.Put) {
	t.Helper()
	if code := b.Write(l...); code != want {
		t.Fatalf("Write(%s) = %d, want %d, behind %s", told(l), code, want, told(b.Puts()))
	}
}

func checkGet(t *testing.T, b *Buf, want api.Put) {
	t.Helper()
	got, ok := b.Get(want.LBA)
	if !ok || !bytes.Equal(got, want.Data) {
		t.Fatalf("Get(%d) = %x, %v, want %x", want.LBA, got, ok, want.Data)
	}
}

func checkNone(t *testing.T, b *Buf, lbas ...int) {
	t.Helper()
	for _, lba := range lbas {
		if got, ok := b.Get(lba); ok || len(got) != 0 {
			t.Fatalf("Get(%d) = %x, %v, want none", lba, got, ok)
		}
	}
}

func checkSet(t *testing.T, b *Buf, want ...api.Extent) {
	t.Helper()
	s := b.Set()
	if s == nil {
		t.Fatal("Set is nil")
	}
	n := 0
	for _, e := range want {
		n += e.Len
	}
	if got := s.Extents(); !slices.Equal(got, want) || s.Count() != n {
		t.Fatalf("Set = %v of %d blocks, want %v", got, s.Count(), want)
	}
}

func samePuts(l, o []api.Put) bool {
	return slices.EqualFunc(l, o, func(p, q api.Put) bool { return p.LBA == q.LBA && bytes.Equal(p.Data, q.Data) })
}

// extents are those of blocks in ascending order, worked out by another hand.
func extents(l []api.Put) []api.Extent {
	var all []api.Extent
	for k, p := range l {
		if k > 0 && l[k-1].LBA == p.LBA-1 {
			all[len(all)-1].Len++
		} else {
			all = append(all, x(p.LBA, 1))
		}
	}
	return all
}

// checkBuf holds all that a buffer tells to what should be in it, in ascending order.
func checkBuf(t *testing.T, b *Buf, want ...api.Put) {
	t.Helper()
	if got := b.Puts(); !samePuts(got, want) {
		t.Fatalf("Puts =%s, want%s:\n%x\n%x", told(got), told(want), got, want)
	}
	if got := b.Len(); got != len(want) {
		t.Fatalf("Len = %d, want %d", got, len(want))
	}
	for k, p := range want {
		checkGet(t, b, p)
		if k > 0 && want[k-1].LBA < p.LBA-1 || k == 0 {
			checkNone(t, b, p.LBA-1)
		}
		if k == len(want)-1 {
			checkNone(t, b, p.LBA+1)
		}
	}
	checkSet(t, b, extents(want)...)
}

// checkRefused tells that a Write changes nothing.
func checkRefused(t *testing.T, b *Buf, want api.Errno, l ...api.Put) {
	t.Helper()
	before := b.Puts()
	checkWrite(t, b, want, l...)
	checkBuf(t, b, before...)
	for _, p := range l {
		if !slices.ContainsFunc(before, func(q api.Put) bool { return q.LBA == p.LBA }) {
			checkNone(t, b, p.LBA)
		}
	}
}

// outside are no blocks of a buffer.
func outside(blocks int) []int {
	return []int{-1, -2, -blocks, -256, -1 << 32, -1<<32 + 1, math.MinInt + 1, math.MinInt, blocks, blocks + 1, 2 * blocks, blocks + 256, greatest, greatest + 1, 1 << 32, 1<<32 + 1, 1 << 40, math.MaxInt - 1, math.MaxInt}
}

// lengths are those that no Data may have.
func lengths() []int { return []int{0, 1, 20, 39, 41, 42, 64, 80, 120, 256, 256 + size, 1<<16 + size} }

// nobodys are the nil Buf and the zero one.
func nobodys() []*Buf { return []*Buf{nil, {}} }

func TestP14_1New(t *testing.T) {
	for _, blocks := range []int{1, 2, 3, 17, 200, greatest - 1, greatest} {
		for _, most := range []int{0, 1, 2, 16, 17, 100} {
			b := made(t, blocks, most)
			checkBuf(t, b)
			checkNone(t, b, append(outside(blocks), 0, blocks-1)...)
			fit := min(most, blocks)
			for k := range fit { // from the last block down
				checkWrite(t, b, api.OK, w(blocks-1-k, 1))
			}
			if fit < blocks {
				checkRefused(t, b, errBig, w(0, 1))
				checkRefused(t, b, errBig, w(blocks-1-fit, 1))
			}
			checkRefused(t, b, errRange, w(blocks, 1))
			checkRefused(t, b, errRange, w(-1, 1))
			if b.Len() != fit {
				t.Fatalf("Len = %d, want %d", b.Len(), fit)
			}
		}
	}
}

// A great number of blocks asks for no room ahead, and isn't cut.
func TestP14_1NewGreat(t *testing.T) {
	for _, most := range []int{greatest - 1, greatest, greatest + 1, 1 << 31, 1 << 32, 1<<32 + 1, 1 << 62, math.MaxInt - 1, math.MaxInt} {
		for _, blocks := range []int{1, greatest} {
			b := made(t, blocks, most, w(blocks-1, 1), w(0, 2))
			checkGet(t, b, w(0, 2))
			if blocks > 1 {
				checkBuf(t, b, w(0, 2), w(blocks-1, 1))
			}
		}
	}
}

func TestP14_1NewRefuses(t *testing.T) {
	wrong := []int{0, -1, -2, -200, -256, -greatest, -1 << 32, -1<<32 + 1, math.MinInt + 1, math.MinInt, greatest + 1, greatest + 2, 2 * greatest, 1<<32 + 1, 1 << 40, 1 << 62, math.MaxInt - 1, math.MaxInt}
	for _, blocks := range wrong {
		for _, most := range append(wrong, 1, 2, 16) {
			checkNoNew(t, blocks, most)
		}
	}
	for _, most := range wrong {
		if most >= 0 {
			continue
		}
		for _, blocks := range []int{1, 2, 200, greatest - 1, greatest} {
			checkNoNew(t, blocks, most)
		}
	}
}

func checkNoNew(t *testing.T, blocks, most int) {
	t.Helper()
	if b, code := New(blocks, most); b != nil || code != errArg {
		t.Fatalf("New(%d, %d) = %v, %d, want nil, 1", blocks, most, b, code)
	}
}

func TestP14_1Write(t *testing.T) {
	b := made(t, 10, 6)
	checkWrite(t, b, api.OK, w(4, 1))
	checkBuf(t, b, w(4, 1))
	checkWrite(t, b, api.OK, w(9, 1), w(0, 1))
	checkBuf(t, b, w(0, 1), w(4, 1), w(9, 1))
	checkWrite(t, b, api.OK, w(5, 1), w(8, 1), w(1, 1))
	checkBuf(t, b, w(0, 1), w(1, 1), w(4, 1), w(5, 1), w(8, 1), w(9, 1))
}

func TestP14_1WriteFirstAndLast(t *testing.T) {
	for _, blocks := range []int{1, 2, 3, 200, greatest - 1, greatest} {
		one := made(t, blocks, 1, w(0, 1))
		checkBuf(t, one, w(0, 1))
		last := made(t, blocks, 1, w(blocks-1, 1))
		checkBuf(t, last, w(blocks-1, 1))
		if blocks > 1 {
			both := made(t, blocks, 2)
			checkWrite(t, both, api.OK, w(blocks-1, 1), w(0, 1))
			checkBuf(t, both, w(0, 1), w(blocks-1, 1))
		}
	}
}

// Any bytes may be written, also zeros: a block with them is no block that wasn't written.
func TestP14_1WriteAnyBytes(t *testing.T) {
	for _, c := range []byte{0, 1, 7, 127, 128, 255} {
		p := api.Put{LBA: 3, Data: bytes.Repeat([]byte{c}, size)}
		checkBuf(t, made(t, 10, 2, p), p)
		checkBuf(t, made(t, 10, 2, w(3, 1), p), p)
		checkBuf(t, made(t, 10, 2, p, w(3, 1)), w(3, 1))
	}
	for i := range size { // each of the bytes for itself
		p := api.Put{LBA: 3, Data: make([]byte, size)}
		p.Data[i] = 9
		checkBuf(t, made(t, 10, 2, w(3, 1), p), p)
	}
}

func TestP14_1WriteReplaces(t *testing.T) {
	b := made(t, 10, 4, w(5, 1), w(1, 1))
	checkWrite(t, b, api.OK, w(5, 2))
	checkBuf(t, b, w(1, 1), w(5, 2))
	checkWrite(t, b, api.OK, w(5, 3))
	checkBuf(t, b, w(1, 1), w(5, 3))
	checkWrite(t, b, api.OK, w(9, 4), w(1, 4), w(0, 4))
	checkBuf(t, b, w(0, 4), w(1, 4), w(5, 3), w(9, 4))
	checkWrite(t, b, api.OK, ws(5, 9, 5, 1, 0)...)
	checkBuf(t, b, ws(5, 0, 1, 5, 9)...)
	checkWrite(t, b, api.OK, ws(5, 9, 5, 1, 0)...) // the same bytes once more
	checkBuf(t, b, ws(5, 0, 1, 5, 9)...)
}

// Whichever blocks of a full buffer are written again, in whichever order, fit.
func TestP14_1WriteFull(t *testing.T) {
	for most := 1; most <= 5; most++ {
		lbas := []int{9, 0, 4, 7, 5}[:most]
		for chosen := 1; chosen < 1<<most; chosen++ {
			b := made(t, 10, most)
			checkWrite(t, b, api.OK, ws(1, lbas...)...)
			var again, want []api.Put
			for k, lba := range lbas {
				nth := 1
				if chosen>>k&1 == 1 {
					nth = 2
					again = append(again, w(lba, 2))
				}
				want = append(want, w(lba, nth))
			}
			slices.SortFunc(want, func(p, q api.Put) int { return p.LBA - q.LBA })
			checkRefused(t, b, errBig, w(3, 2))
			for k := range len(again) + 1 { // with a new one at every place nothing of it is written
				checkRefused(t, b, errBig, slices.Insert(slices.Clone(again), k, w(3, 2))...)
			}
			checkWrite(t, b, api.OK, again...)
			checkBuf(t, b, want...)
		}
	}
}

func TestP14_1WriteOverlapExample(t *testing.T) {
	b := made(t, 10, 4)
	checkRefused(t, b, errOverlap, w(3, 1), w(3, 2))
	checkRefused(t, b, errOverlap, w(3, 1), w(3, 1))
	checkBuf(t, b)
}

func TestP14_1WriteNothing(t *testing.T) {
	for _, b := range []*Buf{made(t, 10, 4), made(t, 1, 0), made(t, 10, 2, w(4, 1), w(0, 1))} {
		checkRefused(t, b, errArg)
		checkRefused(t, b, errArg, []api.Put{}...)
		checkRefused(t, b, errArg, ws(1, 3)[:0]...)
	}
}

// around puts one Put at each place of a vector that is right, and tells each.
func around(p api.Put, right ...api.Put) [][]api.Put {
	var all [][]api.Put
	for k := range len(right) + 1 {
		all = append(all, slices.Insert(slices.Clone(right), k, p))
	}
	return all
}

func TestP14_1WriteOutside(t *testing.T) {
	for _, blocks := range []int{10, 200, 257, greatest} {
		b := made(t, blocks, 9, w(4, 1), w(0, 1))
		for _, lba := range outside(blocks) {
			checkRefused(t, b, errRange, w(lba, 2))
			for _, l := range around(w(lba, 2), w(4, 2), w(7, 2), w(blocks-1, 2)) {
				checkRefused(t, b, errRange, l...)
			}
		}
	}
}

func TestP14_1WriteLengths(t *testing.T) {
	b := made(t, 10, 9, w(4, 1), w(0, 1))
	for _, n := range lengths() {
		for _, lba := range []int{4, 5, 9} {
			checkRefused(t, b, errLen, short(lba, n))
		}
		for _, l := range around(short(2, n), w(4, 2), w(7, 2), w(9, 2)) {
			checkRefused(t, b, errLen, l...)
		}
		for _, l := range around(short(0, n), w(4, 2), w(7, 2), w(9, 2)) {
			checkRefused(t, b, errLen, l...)
		}
	}
	checkRefused(t, b, errLen, api.Put{LBA: 4})
	checkRefused(t, b, errLen, api.Put{})
	checkRefused(t, b, errLen, w(4, 2), api.Put{LBA: 2, Data: data(2, 2)[:39]}) // the 40th byte lies behind it
}

func TestP14_1WriteOverlaps(t *testing.T) {
	b := made(t, 300, 99, w(4, 1), w(0, 1))
	for _, lba := range []int{0, 4, 5, 256, 299} { // written before, and not
		right := ws(2, 9, 3, 100, 2)
		for from := range 5 {
			for to := from + 1; to <= 5; to++ { // side by side and apart
				l := slices.Insert(slices.Clone(right), from, w(lba, 2))
				l = slices.Insert(l, to, w(lba, 3))
				checkRefused(t, b, errOverlap, l...)
				l[from], l[to] = w(lba, 2), w(lba, 2)
				checkRefused(t, b, errOverlap, l...)
			}
		}
		checkRefused(t, b, errOverlap, w(lba, 2), w(lba, 3), w(lba, 4))
	}
	checkRefused(t, b, errOverlap, ws(2, 7, 8, 7, 8)...)
	checkRefused(t, b, errOverlap, ws(2, 7, 8, 8, 7)...)
	checkWrite(t, b, api.OK, ws(2, 1, 257, 2, 258, 0, 256)...) // those that are alike in their last byte are none
}

func TestP14_1WriteTooMany(t *testing.T) {
	b := made(t, 20, 4, w(4, 1), w(0, 1))
	checkRefused(t, b, errBig, ws(2, 1, 2, 3)...)
	checkRefused(t, b, errBig, ws(2, 0, 1, 2, 3)...)
	checkRefused(t, b, errBig, ws(2, 1, 2, 3, 4)...)
	checkRefused(t, b, errBig, ws(2, 4, 1, 2, 0, 3)...)
	checkRefused(t, b, errBig, ws(2, 19, 18, 17, 16, 15, 14, 13, 12)...)
	checkWrite(t, b, api.OK, ws(2, 4, 1, 0, 3)...)
	checkBuf(t, b, ws(2, 0, 1, 3, 4)...)
	checkRefused(t, b, errBig, w(2, 3))
	none := made(t, 20, 0)
	for lba := range 20 {
		checkRefused(t, none, errBig, w(lba, 1))
	}
	checkRefused(t, none, errBig, ws(1, 3, 4, 5)...)
	small := made(t, 3, 3) // as many as there are blocks
	checkWrite(t, small, api.OK, ws(1, 2, 0, 1)...)
	checkWrite(t, small, api.OK, ws(2, 1, 2, 0)...)
	checkBuf(t, small, ws(2, 0, 1, 2)...)
}

// Each choice of faults in each order, among Puts that are right: the one that the chapter names first is told.
func TestP14_1WriteFirstError(t *testing.T) {
	faults := []api.Put{
		w(-1, 2), w(20, 2), // out of range
		short(15, 39), short(11, 41), short(4, 0), // too short or long: a new block, one that is there twice, one that was written
		w(12, 3),      // there twice
		short(-1, 39), // out of range and too short
		w(16, 2),      // one too many
	}
	for chosen := range 1 << len(faults) {
		var some []api.Put
		for k, p := range faults {
			if chosen>>k&1 == 1 {
				some = append(some, p)
			}
		}
		if len(some) > 3 {
			continue
		}
		for _, order := range permutations(len(some)) {
			playFaults(t, some, order)
		}
	}
}

func playFaults(t *testing.T, some []api.Put, order []int) {
	t.Helper()
	var l []api.Put
	for _, k := range order {
		l = append(l, some[k])
	}
	right := ws(2, 11, 12, 13, 4)
	for at := range len(right) + 1 {
		vector := slices.Concat(right[:at], l, right[at:])
		b := made(t, 20, 5, w(4, 1), w(0, 1)) // full with the right ones
		want := firstError(b.Puts(), 20, 5, vector)
		if want != api.OK {
			checkRefused(t, b, want, vector...)
			continue
		}
		checkWrite(t, b, api.OK, vector...)
		checkBuf(t, b, w(0, 1), w(4, 2), w(11, 2), w(12, 2), w(13, 2))
	}
}

// firstError is the chapter's order of words, condition by condition, by another hand.
func firstError(in []api.Put, blocks, most int, l []api.Put) api.Errno {
	if len(l) == 0 {
		return errArg
	}
	for _, p := range l {
		if p.LBA < 0 || p.LBA > blocks-1 {
			return errRange
		}
	}
	for _, p := range l {
		if len(p.Data) != size {
			return errLen
		}
	}
	for k, p := range l {
		for _, q := range l[:k] {
			if p.LBA == q.LBA {
				return errOverlap
			}
		}
	}
	if len(laid(in, l)) > most {
		return errBig
	}
	return api.OK
}

// laid is what a buffer has behind a vector, in ascending order.
func laid(in, l []api.Put) []api.Put {
	all := slices.Clone(in)
	for _, p := range l {
		k := 0
		for k < len(all) && all[k].LBA < p.LBA {
			k++
		}
		if k < len(all) && all[k].LBA == p.LBA {
			all[k] = p
		} else {
			all = slices.Insert(all, k, p)
		}
	}
	return all
}

// permutations answers all orders of the numbers below n.
func permutations(n int) [][]int {
	if n == 0 {
		return [][]int{nil}
	}
	var all [][]int
	for _, p := range permutations(n - 1) {
		for k := range n {
			all = append(all, slices.Insert(slices.Clone(p), k, n-1))
		}
	}
	return all
}

// The order of the errors by hand: of two that apply the first one of the chapter, whichever Put has it.
func TestP14_1WriteFirstErrorByHand(t *testing.T) {
	for _, c := range []struct {
		want api.Errno
		l    []api.Put
	}{
		{errRange, []api.Put{short(-1, 39)}},
		{errRange, []api.Put{short(20, 0)}},
		{errRange, []api.Put{short(3, 39), w(20, 2)}},
		{errRange, []api.Put{w(20, 2), short(3, 39)}},
		{errRange, []api.Put{w(20, 2), w(20, 2)}},
		{errRange, []api.Put{w(-1, 2), w(-1, 2)}},
		{errRange, []api.Put{w(3, 2), w(3, 2), w(-1, 2)}},
		{errRange, []api.Put{w(1, 2), w(2, 2), w(3, 2), w(20, 2)}},
		{errRange, []api.Put{w(20, 2), w(21, 2), w(22, 2), w(23, 2)}},
		{errRange, []api.Put{short(3, 39), w(3, 2), w(1, 2), w(2, 2), w(20, 2)}},
		{errLen, []api.Put{short(3, 39), short(3, 39)}},
		{errLen, []api.Put{w(3, 2), w(3, 2), short(4, 41)}},
		{errLen, []api.Put{w(3, 2), short(3, 41)}},
		{errLen, []api.Put{w(1, 2), w(2, 2), w(3, 2), short(0, 39)}},
		{errLen, []api.Put{w(1, 2), w(2, 2), w(3, 2), w(3, 2), short(0, 39)}},
		{errOverlap, []api.Put{w(1, 2), w(2, 2), w(3, 2), w(3, 2)}},
		{errOverlap, []api.Put{w(1, 2), w(2, 2), w(3, 2), w(0, 2), w(1, 2)}},
		{errOverlap, []api.Put{w(3, 2), w(3, 2), w(1, 2), w(2, 2)}},
		{errOverlap, []api.Put{w(1, 2), w(2, 2), w(2, 2)}}, // without the second one it would fit
		{errBig, []api.Put{w(1, 2), w(2, 2), w(3, 2)}},
	} {
		b := made(t, 20, 4, w(4, 1), w(0, 1))
		checkRefused(t, b, c.want, c.l...)
		checkWrite(t, b, api.OK, ws(3, 1, 2)...)
		checkBuf(t, b, w(0, 1), w(1, 3), w(2, 3), w(4, 1))
	}
}

// Every row of two short vectors, on buffers of every size.
func TestP14_1AllShortRows(t *testing.T) {
	const blocks = 3
	var puts []api.Put
	for lba := -1; lba <= blocks; lba++ {
		puts = append(puts, w(lba, 1), short(lba, 39))
	}
	vectors := [][]api.Put{nil}
	for _, p := range puts {
		vectors = append(vectors, []api.Put{p})
		for _, q := range puts {
			vectors = append(vectors, []api.Put{p, q})
		}
	}
	for most := range blocks + 1 {
		for _, first := range vectors {
			for _, second := range vectors {
				playRow(t, blocks, most, first, again(second))
			}
		}
		for _, l := range triples(puts) {
			playRow(t, blocks, most, l)
			playRow(t, blocks, most, ws(3, 1), l)
		}
	}
}

func triples(puts []api.Put) [][]api.Put {
	var all [][]api.Put
	for _, p := range puts {
		for _, q := range puts {
			for _, r := range puts {
				all = append(all, []api.Put{p, q, r})
			}
		}
	}
	return all
}

// again is the vector's second writing.
func again(l []api.Put) []api.Put {
	var all []api.Put
	for _, p := range l {
		if len(p.Data) == size {
			p = w(p.LBA, 2)
		}
		all = append(all, p)
	}
	return all
}

func playRow(t *testing.T, blocks, most int, row ...[]api.Put) {
	t.Helper()
	b := made(t, blocks, most)
	var in []api.Put
	for _, l := range row {
		want := firstError(in, blocks, most, l)
		checkWrite(t, b, want, l...)
		if want == api.OK {
			in = laid(in, l)
		}
		checkBuf(t, b, in...)
	}
}

func TestP14_2WriteOnNobody(t *testing.T) {
	for _, b := range nobodys() {
		for range 2 {
			checkWrite(t, b, errArg)
			checkWrite(t, b, errArg, []api.Put{}...)
			for _, lba := range append(outside(1), 0, 1, 5) {
				checkWrite(t, b, errRange, w(lba, 1))
				checkWrite(t, b, errRange, short(lba, 39))
				checkWrite(t, b, errRange, api.Put{LBA: lba})
				checkWrite(t, b, errRange, w(lba, 1), w(lba, 1))
				checkWrite(t, b, errRange, w(lba, 1), short(3, 41), w(0, 1))
			}
			checkBuf(t, b)
		}
	}
}

func TestP14_2Nobody(t *testing.T) {
	for _, b := range nobodys() {
		for range 2 {
			checkNone(t, b, append(outside(1), 0, 1, 5, greatest-1)...)
			if b.Len() != 0 || len(b.Puts()) != 0 {
				t.Fatalf("%d blocks, %v", b.Len(), b.Puts())
			}
			checkSet(t, b)
			b.Set().Add(x(0, 3)) // the next one is another set
			checkSet(t, b)
		}
	}
}

func TestP14_2Get(t *testing.T) {
	b := made(t, 10, 4, w(5, 1), w(0, 1), w(9, 1), w(5, 2))
	checkGet(t, b, w(0, 1)) // once
	checkGet(t, b, w(5, 2)) // twice
	checkGet(t, b, w(9, 1))
	checkGet(t, b, w(9, 1)) // asking changes nothing
	checkNone(t, b, 1, 2, 3, 4, 6, 7, 8)
	checkNone(t, b, outside(10)...)
	checkRefused(t, b, errBig, w(3, 1), w(4, 1))
	checkNone(t, b, 3, 4)
}

// An LBA is asked for as it is, not cut.
func TestP14_2GetOutside(t *testing.T) {
	for _, blocks := range []int{1, 2, 200, 257, greatest} {
		b := made(t, blocks, 3, w(0, 1), w(blocks-1, 2))
		checkNone(t, b, outside(blocks)...)
		checkNone(t, b, 1<<32+blocks-1, -1<<32+blocks-1, blocks-1+1<<20, 1<<62)
		checkNone(t, made(t, blocks, 3), append(outside(blocks), 0, blocks-1)...)
	}
}

func TestP14_2Len(t *testing.T) {
	b := made(t, 10, 5)
	for _, step := range []struct {
		l    []api.Put
		want int
	}{
		{nil, 0}, {ws(1, 4), 1}, {ws(2, 4), 1}, {ws(3, 4, 5), 2}, {ws(4, 5, 4), 2}, {ws(5, 0, 9, 5), 4}, {ws(6, 0), 4}, {ws(7, 1, 0), 5}, {ws(8, 9, 5, 4, 1, 0), 5}, {ws(9, 4), 5},
	} {
		if len(step.l) > 0 {
			checkWrite(t, b, api.OK, step.l...)
		}
		for range 2 {
			if got := b.Len(); got != step.want {
				t.Fatalf("Len = %d, want %d, behind%s", got, step.want, told(step.l))
			}
		}
		b.Write(w(4, 9), w(4, 9))
		b.Write(w(10, 9))
		b.Write(ws(9, 0, 1, 2, 3, 4, 5)...)
		if got := b.Len(); got != step.want {
			t.Fatalf("Len = %d, want %d, behind what is refused", got, step.want)
		}
	}
}

// Whatever the order in which blocks were written, and whether at once or one by one.
func TestP14_2PutsInOrder(t *testing.T) {
	lbas := []int{0, 3, 4, 9, 255}
	want := ws(1, lbas...)
	for _, order := range permutations(len(lbas)) {
		one, all := made(t, 256, 5), made(t, 256, 5)
		var l []api.Put
		for _, k := range order {
			checkWrite(t, one, api.OK, want[k])
			l = append(l, want[k])
		}
		checkWrite(t, all, api.OK, l...)
		checkBuf(t, one, want...)
		checkBuf(t, all, want...)
		checkWrite(t, one, api.OK, w(lbas[order[0]], 2)) // writing again moves none
		again := slices.Clone(want)
		again[order[0]] = w(lbas[order[0]], 2)
		checkBuf(t, one, again...)
	}
}

func TestP14_2SetExample(t *testing.T) {
	for _, order := range permutations(3) {
		b := made(t, 10, 3)
		for _, k := range order {
			checkWrite(t, b, api.OK, w([]int{1, 5, 9}[k], 1))
		}
		checkSet(t, b, x(1, 1), x(5, 1), x(9, 1))
	}
}

func TestP14_2Set(t *testing.T) {
	for _, c := range []struct {
		lbas []int
		want []api.Extent
	}{
		{nil, nil},
		{[]int{0}, list(x(0, 1))},
		{[]int{19}, list(x(19, 1))},
		{[]int{3, 4}, list(x(3, 2))},
		{[]int{4, 3}, list(x(3, 2))},
		{[]int{3, 4, 5, 6}, list(x(3, 4))},
		{[]int{6, 5, 4, 3}, list(x(3, 4))},
		{[]int{9, 7, 5, 3, 1}, list(x(1, 1), x(3, 1), x(5, 1), x(7, 1), x(9, 1))},
		{[]int{3, 5, 4}, list(x(3, 3))},
		{[]int{3, 4, 4, 3, 4}, list(x(3, 2))},
		{[]int{9, 3, 8, 4, 0}, list(x(0, 1), x(3, 2), x(8, 2))},
		{[]int{19, 0, 18, 1}, list(x(0, 2), x(18, 2))},
	} {
		b := made(t, 20, 16)
		for k, lba := range c.lbas {
			checkWrite(t, b, api.OK, w(lba, k))
		}
		checkSet(t, b, c.want...)
		checkSet(t, b, c.want...)
	}
	checkSet(t, made(t, greatest, 2, w(greatest-1, 1), w(0, 1)), x(0, 1), x(greatest-1, 1))
	checkSet(t, made(t, greatest, 2, w(greatest-1, 1), w(greatest-2, 1)), x(greatest-2, 2))
}

// It tells and takes in what any set of chapter 11 does.
func TestP14_2SetIsOne(t *testing.T) {
	b := made(t, 30, 9, ws(1, 9, 3, 8, 4, 0)...)
	s, o := b.Set(), ival.New(1)
	if code := o.Add(x(5, 4)); code != api.OK {
		t.Fatalf("Add = %d", code)
	}
	if !s.Has(8) || s.Has(5) || !s.Meets(x(1, 3)) || s.Meets(x(5, 3)) || !s.Crosses(o) {
		t.Errorf("%v", s.Extents())
	}
	if code := s.Add(x(11, 1), x(1, 2), x(20, 3)); code != api.OK {
		t.Errorf("Add = %d", code)
	}
	if got := s.Extents(); !slices.Equal(got, list(x(0, 5), x(8, 2), x(11, 1), x(20, 3))) {
		t.Errorf("Extents = %v", got)
	}
}

// Whatever is added to it needs no more extents than it may have.
func TestP14_2SetHasRoom(t *testing.T) {
	for _, b := range append(nobodys(), made(t, 5, 0), made(t, 1000, 2), made(t, 1000, 2, ws(1, 1, 3)...)) {
		s := b.Set()
		for k := range 500 {
			if code := s.Add(x(2*k+1, 1)); code != api.OK {
				t.Fatalf("Add = %d, with %v", code, s.Extents())
			}
		}
		if s.Count() != 500 || len(s.Extents()) != 500 {
			t.Errorf("%v", s.Extents())
		}
	}
}

// Every set of a few blocks, at both ends and between.
func TestP14_2AllSmallSets(t *testing.T) {
	const n, blocks = 7, 100
	for _, first := range []int{0, 50, blocks - n} {
		for bits := range 1 << n {
			var want []api.Put
			for k := range n {
				if bits>>k&1 == 1 {
					want = append(want, w(first+k, bits))
				}
			}
			back := slices.Clone(want)
			slices.Reverse(back)
			checkBuf(t, made(t, blocks, n, want...), want...)
			checkBuf(t, made(t, blocks, n, back...), want...)
		}
	}
}

// Every second block, many of them, in three orders, and then those between.
func TestP14_2Many(t *testing.T) {
	const n = 50000
	for _, step := range []int{1, n - 1, 7919} { // forth, back, strewn: each has no divisor in common with n
		b := made(t, greatest, 2*n)
		var odd, even []api.Put
		var all []api.Extent
		for k := range n {
			even = append(even, w(2*(k*step%n), 1))
			odd = append(odd, w(2*(k*step%n)+1, 1))
			all = append(all, x(2*k, 1))
		}
		checkWrite(t, b, api.OK, even...)
		checkSet(t, b, all...)
		checkWrite(t, b, api.OK, odd...)
		checkWrite(t, b, api.OK, even...)
		checkWrite(t, b, errOverlap, slices.Concat(even, even[n-1:])...)
		checkWrite(t, b, errBig, slices.Concat(even, ws(1, 2*n))...)
		checkSet(t, b, x(0, 2*n))
		if b.Len() != 2*n || len(b.Puts()) != 2*n {
			t.Fatalf("%d blocks, %d told", b.Len(), len(b.Puts()))
		}
	}
}

func TestP14_3GetIsLast(t *testing.T) {
	b := made(t, 10, 3)
	for nth := range 50 {
		checkWrite(t, b, api.OK, w(7, nth))
		checkGet(t, b, w(7, nth))
		checkWrite(t, b, api.OK, w(2, nth), w(3, nth+1))
		b.Write(w(7, 1000), w(10, 1))
		b.Write(w(7, 1001), short(2, 39))
		b.Write(w(7, 1002), w(7, 1003))
		b.Write(w(7, 1004), w(1, 1))
		checkBuf(t, b, w(2, nth), w(3, nth+1), w(7, nth))
	}
}

// spare is a vector with more Puts behind it, and Data with more bytes behind them.
func spare(l ...api.Put) []api.Put {
	var whole []api.Put
	for _, p := range l {
		behind := bytes.Repeat([]byte{200}, 9)
		whole = append(whole, api.Put{LBA: p.LBA, Data: append(slices.Clone(p.Data), behind...)[:len(p.Data)]})
	}
	return append(whole, w(777, 7), w(778, 8))[:len(l)]
}

// shown is a vector with all that lies behind it.
func shown(l []api.Put) string {
	s := ""
	for _, p := range l[:cap(l)] {
		s += fmt.Sprintf("%d:%d:%x ", p.LBA, len(p.Data), p.Data[:cap(p.Data)])
	}
	return s
}

func TestP14_3ArgumentsStay(t *testing.T) {
	b := made(t, 1000, 4, w(3, 1))
	for _, c := range []struct {
		want api.Errno
		l    []api.Put
	}{
		{api.OK, spare(ws(2, 9, 3, 5)...)},
		{api.OK, spare(ws(3, 9, 3, 5)...)},
		{api.OK, spare(w(5, 4))},
		{errArg, spare()},
		{errRange, spare(w(9, 5), w(3, 5), w(1000, 5))},
		{errLen, spare(w(9, 5), short(3, 39), w(5, 5))},
		{errOverlap, spare(ws(5, 9, 3, 9)...)},
		{errBig, spare(ws(5, 9, 8, 7, 3)...)},
	} {
		before := shown(c.l)
		checkWrite(t, b, c.want, c.l...)
		b.Puts()
		b.Set()
		b.Get(9)
		if after := shown(c.l); after != before {
			t.Errorf("%s turns to %s", before, after)
		}
	}
	checkBuf(t, b, w(3, 3), w(5, 4), w(9, 3))
}

// spoil changes all that a vector reaches.
func spoil(l []api.Put) {
	whole := l[:cap(l)]
	for k, p := range whole {
		spoilBytes(p.Data)
		whole[k] = api.Put{LBA: 500 + k, Data: bytes.Repeat([]byte{99}, size)}
	}
}

func spoilBytes(b []byte) {
	for k := range b[:cap(b)] {
		b[:cap(b)][k] ^= 0xff
	}
}

func TestP14_3ArgumentsAreNotKept(t *testing.T) {
	b := made(t, 1000, 4)
	l := spare(ws(1, 9, 3, 5)...)
	checkWrite(t, b, api.OK, l...)
	spoil(l)
	checkBuf(t, b, ws(1, 3, 5, 9)...)
	one := spare(w(3, 2))
	checkWrite(t, b, api.OK, one...)
	spoil(one)
	checkBuf(t, b, w(3, 2), w(5, 1), w(9, 1))
	same := data(4, 1) // several blocks of one and the same bytes
	checkWrite(t, b, api.OK, api.Put{LBA: 5, Data: same}, api.Put{LBA: 9, Data: same})
	spoilBytes(same)
	checkBuf(t, b, w(3, 2), api.Put{LBA: 5, Data: data(4, 1)}, api.Put{LBA: 9, Data: data(4, 1)})
	refused := spare(w(3, 9), w(1000, 9))
	checkWrite(t, b, errRange, refused...)
	spoil(refused)
	checkGet(t, b, w(3, 2))
}

func TestP14_3ResultsAreNew(t *testing.T) {
	b := made(t, 1000, 5, ws(1, 9, 3, 5, 4)...)
	want := ws(1, 3, 4, 5, 9)

	one, _ := b.Get(5)
	two, _ := b.Get(5)
	spoilBytes(one)
	if !bytes.Equal(two, data(5, 1)) {
		t.Errorf("two that Get returned share: %x", two)
	}
	checkBuf(t, b, want...)

	kept := b.Puts()
	spoil(b.Puts())
	if !samePuts(kept, want) {
		t.Errorf("two that Puts returned share:%s", told(kept))
	}
	checkBuf(t, b, want...)

	for k := range kept { // no two Data of one answer share
		l := b.Puts()
		spoilBytes(l[k].Data)
		if !samePuts(slices.Delete(l, k, k+1), slices.Delete(slices.Clone(want), k, k+1)) {
			t.Errorf("the Data of %d is shared", want[k].LBA)
		}
	}

	s, o := b.Set(), b.Set()
	if s.Add(x(0, 900)) != api.OK || o.Count() != 4 {
		t.Errorf("two that Set returned share: %v", o.Extents())
	}
	checkBuf(t, b, want...)
}

// What was returned stays as it was, whatever is written behind it.
func TestP14_3ResultsStay(t *testing.T) {
	b := made(t, 1000, 9, ws(1, 9, 3, 5, 4)...)
	got, _ := b.Get(5)
	puts, set := b.Puts(), b.Set()
	checkWrite(t, b, api.OK, ws(2, 3, 4, 5, 9)...)
	checkWrite(t, b, api.OK, ws(2, 6, 7, 8, 0)...)
	if !bytes.Equal(got, data(5, 1)) || !samePuts(puts, ws(1, 3, 4, 5, 9)) || !slices.Equal(set.Extents(), list(x(3, 3), x(9, 1))) {
		t.Errorf("they turn to %x,%s, %v", got, told(puts), set.Extents())
	}
	checkBuf(t, b, ws(2, 0, 3, 4, 5, 6, 7, 8, 9)...)
}

func TestP14_3StandApart(t *testing.T) {
	a, b := made(t, 10, 3), made(t, 10, 3)
	l := ws(1, 4, 2)
	checkWrite(t, a, api.OK, l...)
	checkBuf(t, b)
	checkWrite(t, b, api.OK, l...)
	checkWrite(t, a, api.OK, ws(2, 2, 9)...)
	checkBuf(t, a, w(2, 2), w(4, 1), w(9, 2))
	checkBuf(t, b, w(2, 1), w(4, 1))
	checkWrite(t, b, api.OK, a.Puts()...)
	checkWrite(t, a, api.OK, w(4, 3))
	checkBuf(t, a, w(2, 2), w(4, 3), w(9, 2))
	checkBuf(t, b, w(2, 2), w(4, 1), w(9, 2))
	checkRefused(t, b, errBig, w(0, 4))
	checkBuf(t, made(t, 10, 3))
}

// Asking changes nothing.
func TestP14_3AskingChangesNothing(t *testing.T) {
	b := made(t, 10, 3, w(7, 1), w(2, 1))
	for range 3 {
		b.Get(7)
		b.Get(3)
		b.Get(-1)
		b.Len()
		b.Puts()
		b.Set()
		checkBuf(t, b, w(2, 1), w(7, 1))
	}
	checkWrite(t, b, api.OK, w(3, 1))
	checkRefused(t, b, errBig, w(4, 1))
}

// Thrown vectors, some of them wrong, held to another hand's words behind every call.
func TestP14_3Thrown(t *testing.T) {
	codes := map[api.Errno]int{}
	for seed := range 40 {
		throw := dice(uint64(seed))
		blocks := []int{1, 5, 40, greatest}[seed%4]
		most := throw(20)
		b := made(t, blocks, most)
		var in []api.Put
		for nth := range 300 {
			l := thrown(throw, blocks, nth)
			want := firstError(in, blocks, most, l)
			checkWrite(t, b, want, l...)
			if want == api.OK {
				in = laid(in, l)
			}
			checkBuf(t, b, in...)
			codes[want]++
		}
	}
	for _, code := range []api.Errno{api.OK, errArg, errRange, errLen, errOverlap, errBig} {
		if codes[code] < 100 {
			t.Errorf("the throws are one-sided: %v", codes)
		}
	}
}

// thrown is a vector of none to four Puts, most of them right.
func thrown(throw func(int) int, blocks, nth int) []api.Put {
	var l []api.Put
	for range throw(5) {
		p := w(throw(min(blocks, 60)), nth)
		switch throw(30) {
		case 0:
			l := outside(blocks)
			p = w(l[throw(len(l))], nth)
		case 1:
			l := lengths()
			p = short(p.LBA, l[throw(len(l))])
		case 2:
			p = w(blocks-1, nth)
		}
		l = append(l, p)
	}
	return l
}
