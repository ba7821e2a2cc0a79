package zdev

import (
	"bytes"
	"fmt"
	"math"
	"math/big"
	"slices"
	"strings"
	"testing"

	"scarp/api"
)

// The chapter's numbers, of their own.
const (
	size    = 64
	errArg  = api.Errno(1)
	errLen  = api.Errno(3)
	errFull = api.Errno(9)
	errOff  = api.Errno(12)
	errNone = api.Errno(14)
)

var small = api.Geometry{Zones: 8, Size: 96}

// dice answers numbers, the same ones at each run.
func dice(seed uint64) func(n int) int {
	state := seed
	return func(n int) int {
		state = state*6364136223846793005 + 1442695040888963407
		return int((state >> 33) % uint64(n))
	}
}

// numbered is a block all of whose bytes hang on n and on where they stand.
func numbered(n int) []byte {
	p := make([]byte, size)
	for i := range p {
		p[i] = byte(n*7 + n>>8*13 + i*5)
	}
	p[0], p[1], p[size-2], p[size-1] = byte(n), byte(n>>8), byte(n), byte(n>>8)
	return p
}

// broken is what the chapter says of a torn block.
func broken(p []byte) []byte {
	q := slices.Clone(p)
	for i := 32; i < size; i++ {
		q[i] = p[i] ^ 85
	}
	return q
}

func made(t *testing.T, g api.Geometry) *Dev {
	t.Helper()
	d, code := New(g)
	if code != api.OK || d == nil {
		t.Fatalf("New(%v) is refused by %d", g, code)
	}
	return d
}

func put(t *testing.T, d *Dev, zone int, blocks ...[]byte) {
	t.Helper()
	for _, p := range blocks {
		want := pointer(t, d, zone)
		if at, code := d.Append(zone, p); code != api.OK || at != want {
			t.Fatalf("Append to zone %d with %d blocks = %d, %d", zone, want, at, code)
		}
	}
}

func pointer(t *testing.T, d *Dev, zone int) int {
	t.Helper()
	n, code := d.Pointer(zone)
	if code != api.OK {
		t.Fatalf("Pointer(%d) is refused by %d", zone, code)
	}
	return n
}

func flush(t *testing.T, d *Dev) {
	t.Helper()
	checkCode(t, "Flush", d.Flush(), api.OK)
}

func reset(t *testing.T, d *Dev, zone int) {
	t.Helper()
	checkCode(t, "Reset", d.Reset(zone), api.OK)
}

func checkCode(t *testing.T, what string, got, want api.Errno) {
	t.Helper()
	if got != want {
		t.Fatalf("%s: %d, want %d", what, got, want)
	}
}

func checkNumber(t *testing.T, what string, got, want int) {
	t.Helper()
	if got != want {
		t.Fatalf("%s: %d, want %d", what, got, want)
	}
}

func checkOff(t *testing.T, d *Dev, want bool) {
	t.Helper()
	if d.Off() != want {
		t.Fatalf("Off is %v", !want)
	}
}

func checkNoAppend(t *testing.T, d *Dev, zone int, p []byte, want api.Errno) {
	t.Helper()
	if at, code := d.Append(zone, p); code != want || at != 0 {
		t.Fatalf("Append(%d, %d bytes) = %d, %d, want 0, %d", zone, len(p), at, code, want)
	}
}

func checkNoRead(t *testing.T, d *Dev, zone, at int, want api.Errno) {
	t.Helper()
	if p, code := d.Read(zone, at); code != want || len(p) != 0 {
		t.Fatalf("Read(%d, %d) = % x, %d, want none, %d", zone, at, p, code, want)
	}
}

func checkNoPointer(t *testing.T, d *Dev, zone int) {
	t.Helper()
	if n, code := d.Pointer(zone); code != errArg || n != 0 {
		t.Fatalf("Pointer(%d) = %d, %d, want 0, 1", zone, n, code)
	}
}

func checkRead(t *testing.T, d *Dev, zone, at int, want []byte) {
	t.Helper()
	p, code := d.Read(zone, at)
	if code != api.OK || !bytes.Equal(p, want) {
		t.Fatalf("Read(%d, %d) = % x, %d, want % x, 0", zone, at, p, code, want)
	}
}

// checkZone holds a whole zone to what should be there, and to there being no more.
func checkZone(t *testing.T, d *Dev, zone int, want ...[]byte) {
	t.Helper()
	if n := pointer(t, d, zone); n != len(want) {
		t.Fatalf("zone %d has %d blocks, want %d", zone, n, len(want))
	}
	for at, p := range want {
		checkRead(t, d, zone, at, p)
	}
	checkNoRead(t, d, zone, -1, errNone)
	checkNoRead(t, d, zone, len(want), errNone)
}

// state is all that can be asked of a device without an op, but the count of reads that asking adds to.
func state(d *Dev) string {
	var s strings.Builder
	fmt.Fprint(&s, d.Geometry(), d.Ops(), d.Off())
	for zone := range d.Geometry().Zones {
		n, _ := d.Pointer(zone)
		fmt.Fprint(&s, "\n", zone, n)
		for at := range n {
			p, _ := d.Read(zone, at)
			fmt.Fprintf(&s, " %x", p)
		}
	}
	return s.String()
}

// run appends blocks with the numbers from one on, n of them, and answers them.
func run(t *testing.T, d *Dev, zone, from, n int) [][]byte {
	t.Helper()
	var all [][]byte
	for i := range n {
		all = append(all, numbered(from+i))
	}
	put(t, d, zone, all...)
	return all
}

func wrongZones(d *Dev) []int {
	n := d.Geometry().Zones
	return []int{-1, n, n + 1, 64, 65, -n, 1 << 20, 1 << 32, 1<<32 + 1, math.MaxInt, math.MinInt}
}

func TestP9_1New(t *testing.T) {
	for _, zones := range []int{8, 9, 33, 63, 64} {
		for _, blocks := range []int{96, 97, 128, 191, 192} {
			g := api.Geometry{Zones: zones, Size: blocks}
			d := made(t, g)
			if d.Geometry() != g {
				t.Errorf("Geometry of New(%v) is %v", g, d.Geometry())
			}
			for zone := range zones {
				checkZone(t, d, zone)
			}
			checkNoPointer(t, d, zones)
			checkNumber(t, "Ops", d.Ops(), 0)
			checkNumber(t, "Reads", d.Reads(), 0)
			checkOff(t, d, false)
		}
	}
}

func TestP9_1NewRefuses(t *testing.T) {
	wrongZones := []int{7, 65, 0, 1, -1, -8, -64, 66, 96, 1 << 32, 1<<32 + 8, math.MaxInt, math.MinInt}
	wrongSizes := []int{95, 193, 0, 1, -1, -96, -192, 64, 194, 1 << 32, 1<<32 + 96, math.MaxInt, math.MinInt}
	var all []api.Geometry
	for _, zones := range wrongZones {
		for _, blocks := range append([]int{96, 150, 192}, wrongSizes...) {
			all = append(all, api.Geometry{Zones: zones, Size: blocks})
		}
	}
	for _, blocks := range wrongSizes {
		for _, zones := range []int{8, 20, 64} {
			all = append(all, api.Geometry{Zones: zones, Size: blocks})
		}
	}
	for _, g := range all {
		if d, code := New(g); code != errArg || d != nil {
			t.Errorf("New(%v) = %v, %d, want nil, 1", g, d, code)
		}
	}
}

func TestP9_1GeometryStays(t *testing.T) {
	d := made(t, api.Geometry{Zones: 9, Size: 100})
	run(t, d, 3, 0, 5)
	d.Cut(0)
	d.Flush()
	for _, x := range []*Dev{d, d.Crash(nil, nil), d.Copy()} {
		if x.Geometry() != (api.Geometry{Zones: 9, Size: 100}) {
			t.Errorf("Geometry is %v", x.Geometry())
		}
	}
}

func TestP9_3AppendExample(t *testing.T) {
	d := made(t, small)
	put(t, d, 5, numbered(1), numbered(2))
	if at, code := d.Append(5, numbered(3)); at != 2 || code != api.OK {
		t.Errorf("the third Append = %d, %d", at, code)
	}
}

func TestP9_3AppendToTheEnd(t *testing.T) {
	for _, g := range []api.Geometry{small, {Zones: 8, Size: 192}, {Zones: 64, Size: 97}} {
		for _, zone := range []int{0, g.Zones - 1} {
			d := made(t, g)
			var all [][]byte
			for at := range g.Size {
				p := numbered(at + zone)
				all = append(all, p)
				if got, code := d.Append(zone, p); got != at || code != api.OK {
					t.Fatalf("Append %d = %d, %d", at, got, code)
				}
				checkRead(t, d, zone, 0, all[0])
				checkRead(t, d, zone, at, p)
			}
			checkNoAppend(t, d, zone, numbered(500), errFull)
			checkNoAppend(t, d, zone, numbered(501), errFull)
			checkZone(t, d, zone, all...)
			flush(t, d)
			checkNoAppend(t, d, zone, numbered(502), errFull)
			checkZone(t, d.Crash(nil, nil), zone, all...)
			put(t, d, 3, numbered(9)) // another zone has room
			reset(t, d, zone)
			checkZone(t, d, zone)
			put(t, d, zone, numbered(700), numbered(701))
			checkZone(t, d, zone, numbered(700), numbered(701))
			checkZone(t, d, 3, numbered(9))
		}
	}
}

func TestP9_3AppendRefuses(t *testing.T) {
	d := made(t, small)
	run(t, d, 0, 0, 3)
	before := state(d)
	good := numbered(1)
	lengths := [][]byte{nil, {}, good[:1], good[:63], append(slices.Clone(good), 0), make([]byte, 128), make([]byte, 1<<16), good[:40], make([]byte, 256+64)}
	for _, zone := range wrongZones(d) {
		checkNoAppend(t, d, zone, good, errArg)
		for _, p := range lengths { // a zone goes ahead of a length
			checkNoAppend(t, d, zone, p, errArg)
		}
	}
	for zone := range small.Zones {
		for _, p := range lengths {
			checkNoAppend(t, d, zone, p, errLen)
		}
	}
	if state(d) != before {
		t.Error("an Append that is refused changes the device")
	}
	for range 93 {
		put(t, d, 0, good)
	}
	for _, p := range lengths { // a length goes ahead of room
		checkNoAppend(t, d, 0, p, errLen)
	}
	checkNoAppend(t, d, 0, good, errFull)
	checkNoAppend(t, d, 1, good[:63:64], errLen)
}

// Blocks that go to many zones in turns stand each in its own.
func TestP9_3ZonesStandApart(t *testing.T) {
	g := api.Geometry{Zones: 64, Size: 96}
	d := made(t, g)
	throw := dice(93)
	want := make([][][]byte, g.Zones)
	for n := range 4000 {
		zone := throw(g.Zones)
		if len(want[zone]) == g.Size {
			continue
		}
		put(t, d, zone, numbered(n))
		want[zone] = append(want[zone], numbered(n))
	}
	for zone := range want {
		checkZone(t, d, zone, want[zone]...)
	}
	flush(t, d)
	reset(t, d, 0)
	reset(t, d, 31)
	reset(t, d, 63)
	want[0], want[31], want[63] = nil, nil, nil
	for zone := range want {
		checkZone(t, d, zone, want[zone]...)
	}
}

func TestP9_3ReadRefuses(t *testing.T) {
	d := made(t, small)
	run(t, d, 0, 0, 3)
	checkNoRead(t, d, 0, 3, errNone) // the chapter's example
	run(t, d, 7, 50, 96)
	for _, zone := range wrongZones(d) {
		for _, at := range []int{0, -1, 3, 96, math.MaxInt, math.MinInt} { // a zone goes ahead of a place
			checkNoRead(t, d, zone, at, errArg)
		}
	}
	for _, at := range []int{-1, -2, -96, 3, 4, 95, 96, 97, 1 << 20, 1 << 32, math.MaxInt, math.MinInt} {
		checkNoRead(t, d, 0, at, errNone)
	}
	for _, at := range []int{-1, 96, 97, 192, math.MaxInt, math.MinInt} {
		checkNoRead(t, d, 7, at, errNone)
	}
	checkNoRead(t, d, 1, 0, errNone)
	checkNoRead(t, d, 1, -1, errNone)
	reset(t, d, 7)
	checkNoRead(t, d, 7, 0, errNone)
	checkNoRead(t, d, 7, 95, errNone)
}

func TestP9_3Reset(t *testing.T) {
	d := made(t, small)
	reset(t, d, 4) // an empty one
	checkZone(t, d, 4)
	full := run(t, d, 0, 0, 96)
	flushed := run(t, d, 1, 200, 5)
	flush(t, d)
	other := run(t, d, 2, 300, 5)
	checkZone(t, d, 0, full...)
	reset(t, d, 0)
	checkZone(t, d, 0)
	checkZone(t, d, 1, flushed...)
	reset(t, d, 1)
	checkZone(t, d, 1)
	checkZone(t, d, 2, other...)
	reset(t, d, 2)
	checkZone(t, d, 2)
	reset(t, d, 2) // again
	for zone := range small.Zones {
		checkZone(t, d, zone)
		put(t, d, zone, numbered(zone))
		checkZone(t, d, zone, numbered(zone))
	}
}

// A Reset is durable at once, and what comes behind it isn't until a Flush.
func TestP9_3ResetIsDurable(t *testing.T) {
	d := made(t, small)
	run(t, d, 0, 0, 10)
	keep := run(t, d, 1, 20, 10)
	flush(t, d)
	reset(t, d, 0)
	for _, picks := range [][]int{nil, {0}, {1}, {7}, {-1}} {
		checkZone(t, d.Crash(picks, []int{1}), 0)
		checkZone(t, d.Crash(picks, []int{1}), 1, keep...)
	}
	later := run(t, d, 0, 40, 4)
	for n := range 5 {
		checkZone(t, d.Crash([]int{n}, nil), 0, later[:n]...)
	}
	checkZone(t, d.Crash(nil, nil), 0)
	flush(t, d)
	checkZone(t, d.Crash(nil, nil), 0, later...)
}

func TestP9_3ResetAndPointerRefuse(t *testing.T) {
	d := made(t, small)
	run(t, d, 0, 0, 3)
	run(t, d, 7, 9, 96)
	before := state(d)
	for _, zone := range wrongZones(d) {
		checkCode(t, "Reset", d.Reset(zone), errArg)
		checkNoPointer(t, d, zone)
	}
	if state(d) != before {
		t.Error("a call that is refused changes the device")
	}
}

func TestP9_3Pointer(t *testing.T) {
	d := made(t, small)
	for n := range 97 {
		checkNumber(t, "Pointer", pointer(t, d, 6), n)
		checkNumber(t, "Pointer", pointer(t, d, 5), 0)
		if n < 96 {
			put(t, d, 6, numbered(n))
		}
		if n%10 == 3 {
			flush(t, d)
			checkNumber(t, "Pointer behind Flush", pointer(t, d, 6), n+1)
		}
	}
	d.Append(6, numbered(1))
	checkNumber(t, "Pointer behind an Append without room", pointer(t, d, 6), 96)
	reset(t, d, 6)
	checkNumber(t, "Pointer behind Reset", pointer(t, d, 6), 0)
	put(t, d, 6, numbered(1))
	checkNumber(t, "Pointer behind Reset and Append", pointer(t, d, 6), 1)
}

func TestP9_3Flush(t *testing.T) {
	d := made(t, small)
	flush(t, d)
	for round := range 3 {
		for zone := range small.Zones {
			run(t, d, zone, 10*round+zone, zone)
		}
		for zone := range small.Zones {
			checkNumber(t, "blocks ahead of Flush", pointer(t, d.Crash(nil, nil), zone), round*zone)
		}
		flush(t, d)
		for zone := range small.Zones {
			checkNumber(t, "blocks behind Flush", pointer(t, d.Crash(nil, nil), zone), (round+1)*zone)
		}
		flush(t, d)
	}
}

func TestP9_2Ops(t *testing.T) {
	d := made(t, small)
	n := 0
	counts := func(what string, more int) {
		t.Helper()
		n += more
		checkNumber(t, "Ops behind "+what, d.Ops(), n)
	}
	counts("New", 0)
	put(t, d, 0, numbered(1))
	counts("Append", 1)
	flush(t, d)
	counts("Flush", 1)
	reset(t, d, 0)
	counts("Reset", 1)
	reset(t, d, 0)
	counts("Reset of an empty zone", 1)
	run(t, d, 2, 0, 96)
	counts("Appends", 96)
	checkNoAppend(t, d, 2, numbered(1), errFull)
	counts("ErrSpace", 1)
	checkNoAppend(t, d, 8, numbered(1), errArg)
	checkNoAppend(t, d, -1, nil, errArg)
	checkNoAppend(t, d, 2, numbered(1)[1:], errLen)
	checkNoAppend(t, d, 3, nil, errLen)
	checkCode(t, "Reset", d.Reset(8), errArg)
	checkCode(t, "Reset", d.Reset(-1), errArg)
	counts("calls that are refused", 0)
	checkRead(t, d, 2, 5, numbered(5))
	checkNoRead(t, d, 2, 96, errNone)
	checkNoRead(t, d, 8, 0, errArg)
	pointer(t, d, 2)
	checkNoPointer(t, d, 8)
	d.Geometry()
	d.Reads()
	d.Off()
	d.Ops()
	d.Crash(nil, nil)
	d.Copy()
	d.Cut(0)
	counts("what is no op", 0)
	for range 3 {
		checkNoAppend(t, d, 0, numbered(1), errOff)
		counts("Append with ErrOff", 1)
		checkCode(t, "Flush", d.Flush(), errOff)
		counts("Flush with ErrOff", 1)
		checkCode(t, "Reset", d.Reset(0), errOff)
		counts("Reset with ErrOff", 1)
		checkNoAppend(t, d, 2, numbered(1), errOff) // no room, but no power first
		counts("Append with ErrOff to a full zone", 1)
		checkNoAppend(t, d, 8, numbered(1), errArg)
		checkNoAppend(t, d, 0, nil, errLen)
		checkCode(t, "Reset", d.Reset(8), errArg)
		counts("calls that are refused while the power is off", 0)
	}
}

func TestP9_3Reads(t *testing.T) {
	d := made(t, small)
	run(t, d, 1, 0, 3)
	checkNumber(t, "Reads", d.Reads(), 0)
	for n := range 5 {
		checkRead(t, d, 1, n%3, numbered(n%3))
		checkNumber(t, "Reads", d.Reads(), n+1)
	}
	checkNoRead(t, d, 1, 3, errNone)
	checkNoRead(t, d, 1, -1, errNone)
	checkNoRead(t, d, 0, 0, errNone)
	checkNoRead(t, d, 8, 0, errArg)
	pointer(t, d, 1)
	flush(t, d)
	put(t, d, 1, numbered(3))
	reset(t, d, 2)
	d.Crash(nil, nil)
	d.Copy()
	checkNumber(t, "Reads behind what reads nothing", d.Reads(), 5)
	d.Cut(0)
	checkCode(t, "Flush", d.Flush(), errOff)
	checkNoRead(t, d, 1, 4, errNone)
	checkNumber(t, "Reads", d.Reads(), 5)
	checkRead(t, d, 1, 3, numbered(3))
	checkNumber(t, "Reads while the power is off", d.Reads(), 6)
}

// someOp does the k-th op, of those that succeed while there is power, and answers its code.
func someOp(d *Dev, k int) api.Errno {
	switch k % 3 {
	case 0:
		_, code := d.Append(1, numbered(k))
		return code
	case 1:
		return d.Flush()
	}
	return d.Reset(2)
}

func TestP9_2CutExample(t *testing.T) {
	d := made(t, small)
	d.Cut(2)
	put(t, d, 0, numbered(1))
	flush(t, d)
	checkOff(t, d, false)
	checkCode(t, "the third op", d.Reset(0), errOff)
	checkOff(t, d, true)
}

func TestP9_2Cut(t *testing.T) {
	for _, n := range []int{math.MinInt, -100, -2, -1, 0, 1, 2, 3, 4, 5, 10, 100} {
		for first := range 3 {
			d := made(t, small)
			put(t, d, 2, numbered(1))
			d.Cut(n)
			for k := range max(n, 0) {
				checkOff(t, d, false)
				checkCode(t, "an op ahead of the cut", someOp(d, first+k), api.OK)
			}
			checkOff(t, d, false)
			for k := range 5 {
				before := state(d)
				checkCode(t, "an op behind the cut", someOp(d, first+max(n, 0)+k), errOff)
				checkOff(t, d, true)
				if k > 0 {
					before = strings.Replace(before, fmt.Sprint(d.Geometry(), d.Ops()-1), fmt.Sprint(d.Geometry(), d.Ops()), 1)
					if state(d) != before {
						t.Fatal("an op with ErrOff changes more than Ops")
					}
				}
			}
		}
	}
}

func TestP9_2NoCut(t *testing.T) {
	d := made(t, small)
	for k := range 250 {
		checkCode(t, "an op", someOp(d, k), api.OK)
		checkOff(t, d, false)
	}
}

func TestP9_2GreatCut(t *testing.T) {
	d := made(t, small)
	d.Cut(math.MaxInt)
	for k := range 250 {
		checkCode(t, "an op", someOp(d, k), api.OK)
	}
	checkOff(t, d, false)
	d.Cut(1)
	checkCode(t, "the last op", someOp(d, 1), api.OK)
	checkCode(t, "the op behind it", someOp(d, 1), errOff)
}

// A later Cut replaces the one before, be it nearer or farther.
func TestP9_2CutAgain(t *testing.T) {
	for _, first := range []int{-1, 0, 1, 2, 3, 5} {
		for done := 0; done <= max(first, 0); done++ {
			for _, second := range []int{-3, 0, 1, 2, 7} {
				d := made(t, small)
				d.Cut(first)
				for k := range done {
					checkCode(t, "an op of the first cut", someOp(d, k), api.OK)
				}
				d.Cut(second)
				checkOff(t, d, false)
				for k := range max(second, 0) {
					checkCode(t, "an op of the second cut", someOp(d, k), api.OK)
				}
				checkOff(t, d, false)
				checkCode(t, "the op behind it", someOp(d, 0), errOff)
				checkOff(t, d, true)
			}
		}
	}
}

func TestP9_2CutWhileOff(t *testing.T) {
	for _, n := range []int{-1, 0, 1, 9, math.MaxInt, math.MinInt} {
		d := made(t, small)
		d.Cut(1)
		flush(t, d)
		checkCode(t, "Flush", d.Flush(), errOff)
		d.Cut(n)
		checkOff(t, d, true)
		for k := range 12 {
			checkCode(t, "an op while the power is off", someOp(d, k), errOff)
			checkOff(t, d, true)
		}
	}
}

// What is no op, or only asks, neither uses up what Cut lets through nor turns the power off.
func TestP9_2CutCountsOps(t *testing.T) {
	for n := range 4 {
		d := made(t, small)
		put(t, d, 0, numbered(1))
		d.Cut(n)
		for k := range n + 1 {
			checkNoAppend(t, d, 8, numbered(1), errArg)
			checkNoAppend(t, d, 0, nil, errLen)
			checkCode(t, "Reset", d.Reset(-1), errArg)
			checkRead(t, d, 0, 0, numbered(1))
			checkNoRead(t, d, 0, 1, errNone)
			pointer(t, d, 0)
			d.Ops()
			d.Crash(nil, nil)
			d.Copy().Flush()
			checkOff(t, d, false)
			if k < n {
				checkCode(t, "an op", someOp(d, 1), api.OK)
			}
		}
		checkCode(t, "the op behind the cut", someOp(d, 1), errOff)
	}
}

// An Append without room is an op by the chapter's words: it is one of those that Cut lets through, and where the power goes it goes with it.
func TestP9_2CutAndNoRoom(t *testing.T) {
	d := made(t, small)
	run(t, d, 0, 0, 96)
	d.Cut(2)
	checkNoAppend(t, d, 0, numbered(1), errFull)
	checkNoAppend(t, d, 0, numbered(1), errFull)
	checkOff(t, d, false)
	checkNoAppend(t, d, 0, numbered(1), errOff)
	checkOff(t, d, true)
	checkNumber(t, "Ops", d.Ops(), 99)
}

func TestP9_2WhileOff(t *testing.T) {
	d := made(t, small)
	kept := run(t, d, 0, 0, 3)
	flush(t, d)
	kept = append(kept, run(t, d, 0, 3, 2)...)
	full := run(t, d, 7, 100, 96)
	d.Cut(-7)
	before := state(d)
	checkNoAppend(t, d, 7, numbered(1), errOff)
	if strings.Replace(before, "102 false", "103 true", 1) != state(d) {
		t.Error("the op at which the power goes changes more than Ops and Off")
	}
	for range 2 {
		checkNoAppend(t, d, 0, numbered(1), errOff)
		checkNoAppend(t, d, 1, numbered(1), errOff)
		checkCode(t, "Reset", d.Reset(0), errOff)
		checkCode(t, "Reset", d.Reset(1), errOff)
		checkCode(t, "Flush", d.Flush(), errOff)
		for _, zone := range wrongZones(d) {
			checkNoAppend(t, d, zone, numbered(1), errArg)
			checkNoAppend(t, d, zone, nil, errArg)
			checkCode(t, "Reset", d.Reset(zone), errArg)
			checkNoRead(t, d, zone, 0, errArg)
			checkNoPointer(t, d, zone)
		}
		for _, zone := range []int{0, 1, 7} {
			checkNoAppend(t, d, zone, nil, errLen)
			checkNoAppend(t, d, zone, numbered(1)[:63], errLen)
			checkNoAppend(t, d, zone, make([]byte, 65), errLen)
		}
		checkZone(t, d, 0, kept...)
		checkZone(t, d, 1)
		checkZone(t, d, 7, full...)
	}
	after := d.Crash(nil, nil) // the Flush without power made nothing durable
	checkZone(t, after, 0, kept[:3]...)
	checkZone(t, after, 7)
}

func TestP9_4CrashExample(t *testing.T) {
	d := made(t, small)
	put(t, d, 0, numbered(1))
	checkZone(t, d.Crash(nil, nil), 0)
}

// halves is a device each of whose zones has some blocks that are durable and some that are not: zone k has durable[k] and more[k] of them.
func halves(t *testing.T, durable, more []int) (*Dev, [][][]byte) {
	t.Helper()
	d := made(t, small)
	all := make([][][]byte, small.Zones)
	for k, n := range durable {
		all[k] = run(t, d, k, 1000*k, n)
	}
	flush(t, d)
	for k, n := range more {
		all[k] = append(all[k], run(t, d, k, 1000*k+500, n)...)
	}
	return d, all
}

// remainder is mod as the chapter words it, by another hand's numbers.
func remainder(v, by int) int {
	return int(new(big.Int).Mod(big.NewInt(int64(v)), big.NewInt(int64(by))).Int64())
}

// remains are the blocks that the chapter leaves of a zone.
func remains(all [][]byte, durable, k int, picks, torn []int) [][]byte {
	n := durable
	if len(picks) > 0 {
		n += remainder(picks[remainder(k, len(picks))], len(all)-durable+1)
	}
	left := slices.Clone(all[:n])
	if n < len(all) && len(torn) > 0 && remainder(torn[remainder(k, len(torn))], 2) == 1 {
		left = append(left, broken(all[n]))
	}
	return left
}

func TestP9_4Crash(t *testing.T) {
	durable := []int{0, 0, 1, 3, 5, 96, 50, 95}
	more := []int{0, 4, 6, 0, 3, 0, 46, 1}
	d, all := halves(t, durable, more)
	d.Read(1, 1)
	before := state(d)
	reads := d.Reads()
	lists := [][]int{
		nil, {}, {0}, {1}, {2}, {3}, {4}, {5}, {46}, {47}, {100}, {-1}, {-2}, {-5}, {-47}, {-100},
		{0, 1}, {1, 0}, {-1, 1, 2}, {3, -2, 7, 11}, {0, 1, 2, 3, 4, 5, 6, 7}, {-1, -2, -3, -4, -5, -6, -7, -8},
		{0, 2, 2, 1, 1, 9, 20, 1, 77, 78}, {math.MaxInt, math.MinInt}, {math.MinInt}, {math.MaxInt}, {math.MinInt + 1, math.MaxInt - 1, 0},
	}
	for _, picks := range lists {
		for _, torn := range lists {
			after := d.Crash(picks, torn)
			if after == nil || after.Geometry() != small {
				t.Fatal("no device behind a crash")
			}
			checkNumber(t, "Ops", after.Ops(), 0)
			checkNumber(t, "Reads", after.Reads(), 0)
			checkOff(t, after, false)
			for k := range all {
				checkZone(t, after, k, remains(all[k], durable[k], k, picks, torn)...)
			}
		}
	}
	checkNumber(t, "Reads of the device that crashed", d.Reads(), reads)
	if state(d) != before {
		t.Error("a crash changes the device that crashed")
	}
}

// The counts of a small zone, by hand: two durable blocks and three that are not.
func TestP9_4CrashByHand(t *testing.T) {
	d, all := halves(t, []int{2, 2, 2}, []int{3, 3, 3})
	tests := []struct {
		picks []int
		want  [3]int
	}{
		{nil, [3]int{2, 2, 2}},
		{[]int{0}, [3]int{2, 2, 2}},
		{[]int{3}, [3]int{5, 5, 5}},
		{[]int{4}, [3]int{2, 2, 2}},
		{[]int{-1}, [3]int{5, 5, 5}},
		{[]int{-4}, [3]int{2, 2, 2}},
		{[]int{-6}, [3]int{4, 4, 4}},
		{[]int{1, 2}, [3]int{3, 4, 3}},
		{[]int{1, 6, -5, 8}, [3]int{3, 4, 5}},
	}
	for _, x := range tests {
		after := d.Crash(x.picks, nil)
		for k, n := range x.want {
			checkZone(t, after, k, all[k][:n]...)
		}
	}
}

func TestP9_4CrashTears(t *testing.T) {
	d, all := halves(t, []int{0, 2}, []int{1, 1})
	for _, torn := range [][]int{{1}, {-1}, {3}, {-3}, {math.MaxInt}, {math.MinInt + 1}, {1, -1}} {
		for k, n := range []int{0, 2} {
			p, code := d.Crash(nil, torn).Read(k, n)
			checkCode(t, "Read of a torn block", code, api.OK)
			checkNumber(t, "bytes of a torn block", len(p), size)
			for i, c := range all[k][n] {
				if i < 32 && p[i] != c || i >= 32 && p[i] != c^0x55 {
					t.Fatalf("byte %d of a torn block is %x, of the block %x", i, p[i], c)
				}
			}
			checkZone(t, d.Crash([]int{1}, torn), k, all[k]...) // all are kept: none is torn
		}
	}
	for _, torn := range [][]int{nil, {}, {0}, {2}, {-2}, {math.MinInt}, {0, 4}} {
		checkZone(t, d.Crash(nil, torn), 0)
		checkZone(t, d.Crash(nil, torn), 1, all[1][:2]...)
	}
	after := d.Crash(nil, []int{0, 1})
	checkZone(t, after, 0)
	checkZone(t, after, 1, all[1][0], all[1][1], broken(all[1][2]))
	after = d.Crash(nil, []int{1, 0})
	checkZone(t, after, 0, broken(all[0][0]))
	checkZone(t, after, 1, all[1][:2]...)
}

// Tear answers what Crash leaves of a block, and of that the block.
func TestP9_4Tear(t *testing.T) {
	_, all := halves(t, []int{0, 2}, []int{3, 4})
	for _, l := range all {
		for _, p := range l {
			was := slices.Clone(p)
			one := Tear(p)
			if !slices.Equal(one, broken(was)) || !slices.Equal(Tear(one), was) || !slices.Equal(p, was) {
				t.Fatalf("Tear of %x is %x", was, one)
			}
		}
	}
	for _, p := range [][]byte{nil, {}, {1}, numbered(0)[:32], numbered(0)[:33]} {
		if q := Tear(p); len(q) != len(p) || !slices.Equal(Tear(q), p) {
			t.Errorf("Tear of %d bytes is %x", len(p), q)
		}
	}
}

// A new device has power, counts from 0, and keeps all its blocks, the torn one too, through a second crash.
func TestP9_4CrashIsNew(t *testing.T) {
	for _, cut := range []int{0, 3} {
		d, _ := halves(t, []int{0, 2, 96, 0}, []int{5, 3, 0, 96})
		d.Cut(cut)
		if cut == 0 {
			checkCode(t, "Flush", d.Flush(), errOff)
		}
		after := d.Crash([]int{1}, []int{1})
		checkOff(t, after, false)
		checkNumber(t, "Ops", after.Ops(), 0)
		checkNumber(t, "Reads", after.Reads(), 0)
		checkOff(t, d, cut == 0)
		want := state(after)
		if state(after.Crash(nil, nil)) != want || state(after.Crash([]int{0, 1, 2}, []int{1})) != want {
			t.Error("a second crash takes blocks away")
		}
		for k := range 12 {
			checkCode(t, "an op behind a crash", after.Reset(k%8), api.OK)
		}
		checkNumber(t, "Ops", after.Ops(), 12)
		checkNumber(t, "blocks that stay", pointer(t, d, 2), 96)
	}
}

// A zone that a crash filled up by a torn block has no room; one that it left short has.
func TestP9_4CrashAndAppend(t *testing.T) {
	d, all := halves(t, []int{95, 90}, []int{1, 6})
	after := d.Crash(nil, []int{1})
	checkNumber(t, "blocks", pointer(t, after, 0), 96)
	checkNoAppend(t, after, 0, numbered(1), errFull)
	put(t, after, 1, numbered(7))
	checkZone(t, after, 1, append(slices.Clone(all[1][:90]), broken(all[1][90]), numbered(7))...)
	again := after.Crash(nil, nil)
	checkNumber(t, "blocks behind a second crash", pointer(t, again, 1), 91)
	checkZone(t, d, 0, all[0]...)
	checkZone(t, d, 1, all[1]...)
}

func TestP9_4Copy(t *testing.T) {
	d, all := halves(t, []int{0, 2, 96, 3}, []int{5, 3, 0, 0})
	for range 7 {
		checkRead(t, d, 1, 4, all[1][4])
	}
	d.Cut(3)
	flushed := d.Copy()
	flush(t, flushed)
	checkCode(t, "Reset", d.Reset(7), api.OK)
	c := d.Copy()
	checkNumber(t, "Reads", c.Reads(), 7)
	checkNumber(t, "Ops", c.Ops(), d.Ops())
	if state(c) != state(d) {
		t.Fatal("a Copy has another state")
	}
	for _, picks := range [][]int{nil, {1}, {2, 3}} { // so many blocks are durable there as here
		if state(c.Crash(picks, []int{1})) != state(d.Crash(picks, []int{1})) {
			t.Error("a crash of a Copy leaves other blocks")
		}
	}
	for _, x := range []*Dev{c, d} { // each goes through the cut by itself
		checkCode(t, "the second op of three", x.Reset(6), api.OK)
		checkCode(t, "the third op of three", x.Reset(6), api.OK)
		checkOff(t, x, false)
		checkCode(t, "the op behind them", x.Flush(), errOff)
		checkOff(t, x, true)
	}
	off := d.Copy()
	checkOff(t, off, true)
	off.Cut(5)
	checkCode(t, "an op of a Copy without power", off.Reset(6), errOff)
	checkNumber(t, "Ops", off.Ops(), d.Ops()+1)
	checkZone(t, off, 0, all[0]...)
	checkZone(t, flushed.Crash(nil, nil), 0, all[0]...)
	checkZone(t, d.Crash(nil, nil), 0)
}

func TestP9_4CopyOfNew(t *testing.T) {
	c := made(t, small).Copy()
	for k := range 50 {
		checkCode(t, "an op", someOp(c, k), api.OK)
	}
	checkOff(t, c, false)
}

// Whatever is done to one of three devices is not seen in the other two.
func TestP9_4Apart(t *testing.T) {
	makers := []func(*Dev) *Dev{
		func(d *Dev) *Dev { return d.Copy() },
		func(d *Dev) *Dev { return d.Crash([]int{1}, []int{1}) },
		func(d *Dev) *Dev { return d.Crash([]int{-1}, nil) },
		func(d *Dev) *Dev { return d.Crash(nil, nil) },
	}
	for _, maker := range makers {
		d, _ := halves(t, []int{0, 0, 2, 96, 9, 1, 0, 3}, []int{0, 5, 3, 0, 9, 2, 0, 2})
		three := []*Dev{d, maker(d), maker(d)}
		for i, x := range three {
			others := [2]*Dev{three[(i+1)%3], three[(i+2)%3]}
			before := [2]string{state(others[0]), state(others[1])}
			crashed := [2]string{state(others[0].Crash(nil, nil)), state(others[1].Crash(nil, nil))}
			for k := range small.Zones {
				x.Append(k, numbered(i*99+k))
				x.Append(k, numbered(i*98+k))
			}
			x.Flush()
			for _, k := range []int{0, 3, 5} {
				x.Reset(k)
				x.Append(k, numbered(i+k))
				x.Append(k, numbered(i+k+1))
			}
			x.Cut(0)
			x.Flush()
			for j, o := range others {
				if state(o) != before[j] || state(o.Crash(nil, nil)) != crashed[j] {
					t.Fatal("what is done to one device is seen in another one")
				}
			}
		}
	}
}

func TestP9_5NilAndZero(t *testing.T) {
	var none *Dev
	for _, d := range []*Dev{none, {}, new(Dev)} {
		for range 2 {
			for _, zone := range []int{0, -1, 7, 8, 64, math.MaxInt, math.MinInt} {
				checkNoAppend(t, d, zone, numbered(1), errArg)
				checkNoAppend(t, d, zone, nil, errArg)
				checkNoRead(t, d, zone, 0, errArg)
				checkNoRead(t, d, zone, -1, errArg)
				checkCode(t, "Reset", d.Reset(zone), errArg)
				checkNoPointer(t, d, zone)
			}
			checkCode(t, "Flush", d.Flush(), errArg)
			if d.Geometry() != (api.Geometry{}) {
				t.Errorf("Geometry is %v", d.Geometry())
			}
			checkNumber(t, "Ops", d.Ops(), 0)
			checkNumber(t, "Reads", d.Reads(), 0)
			checkOff(t, d, true)
			if d.Crash(nil, nil) != nil || d.Crash([]int{1}, []int{1}) != nil {
				t.Error("Crash is not nil")
			}
			if d.Copy() != nil {
				t.Error("Copy is not nil")
			}
			d.Cut(3) // and all of it once more
		}
	}
}

func TestP9_6DurableBlocksRemain(t *testing.T) {
	d := made(t, small)
	kept := run(t, d, 2, 0, 20)
	flush(t, d)
	checkKept := func() {
		t.Helper()
		for _, picks := range [][]int{nil, {0}, {1, 2}, {-1}} {
			after := d.Crash(picks, []int{1}).Crash(picks, []int{1})
			for at, p := range kept {
				checkRead(t, after, 2, at, p)
			}
		}
	}
	checkKept()
	run(t, d, 2, 50, 30)
	checkKept()
	run(t, d, 1, 50, 96)
	run(t, d, 3, 50, 10)
	reset(t, d, 1)
	reset(t, d, 3)
	checkKept()
	run(t, d, 2, 90, 46)
	checkNoAppend(t, d, 2, numbered(1), errFull)
	checkKept()
	d.Cut(0)
	checkCode(t, "Reset", d.Reset(2), errOff)
	checkKept()
}

// fill writes over a row and over the room behind it.
func fill(p []byte) {
	p = p[:cap(p)]
	for i := range p {
		p[i] = 0xee
	}
}

func TestP9_6BytesAreCopied(t *testing.T) {
	d := made(t, small)
	room := bytes.Repeat([]byte{0xe7}, 300)
	row := room[100:164]
	for n := range 5 {
		copy(row, numbered(n))
		put(t, d, 0, row)
		if !bytes.Equal(row, numbered(n)) {
			t.Fatal("Append changes its argument")
		}
		checkNoAppend(t, d, 9, row, errArg)
		checkNoAppend(t, d, 0, room[100:163], errLen)
	}
	marks := bytes.Repeat([]byte{0xe7}, 100)
	if !bytes.Equal(room[:100], marks) || !bytes.Equal(room[164:264], marks) {
		t.Error("Append changes what stands about its argument")
	}
	fill(room)
	var all [][]byte
	for n := range 5 {
		all = append(all, numbered(n))
	}
	checkZone(t, d, 0, all...)
	for n := range 5 {
		p, _ := d.Read(0, n)
		q, _ := d.Read(0, n)
		_ = append(p, 1, 2, 3)
		fill(p)
		if !bytes.Equal(q, all[n]) {
			t.Fatal("what one Read returned changes with what another one did")
		}
		fill(q)
	}
	checkZone(t, d, 0, all...)
	flush(t, d)
	checkZone(t, d.Crash(nil, nil), 0, all...)
}

// What Read returned stays as it is, whatever becomes of the block.
func TestP9_6ReadsStand(t *testing.T) {
	d := made(t, small)
	run(t, d, 0, 0, 2)
	p, _ := d.Read(0, 0)
	q, _ := d.Copy().Read(0, 1)
	r, _ := d.Crash(nil, []int{1}).Read(0, 0)
	reset(t, d, 0)
	run(t, d, 0, 50, 96)
	if !bytes.Equal(p, numbered(0)) || !bytes.Equal(q, numbered(1)) || !bytes.Equal(r, broken(numbered(0))) {
		t.Error("a block that was read changes")
	}
}

func TestP9_6ListsStand(t *testing.T) {
	d, all := halves(t, []int{0, 2, 96, 3}, []int{5, 3, 0, 0})
	whole := []int{77, 78, 1, 6, -5, 8, 79, 80}
	other := []int{91, 92, 3, -1, 0, 5, 93, 94}
	picks, torn := whole[2:6], other[2:6]
	after := d.Crash(picks, torn)
	if !slices.Equal(whole, []int{77, 78, 1, 6, -5, 8, 79, 80}) || !slices.Equal(other, []int{91, 92, 3, -1, 0, 5, 93, 94}) {
		t.Error("Crash changes its arguments or what stands about them")
	}
	want := state(after)
	clear(whole)
	clear(other)
	if state(after) != want {
		t.Error("Crash keeps its arguments")
	}
	checkZone(t, after, 0, all[0][0], broken(all[0][1]))
}

// plan is a device of another hand: a list of blocks a zone, each of which knows whether it is durable.
type plan struct {
	g     api.Geometry
	zones [][]laid
	ops   int
	end   int // what Ops is once the power is off; 0: no Cut was called
	off   bool
	reads int
}

type laid struct {
	data    string
	durable bool
}

func (p *plan) op() bool {
	p.ops++
	if p.end > 0 && p.ops >= p.end {
		p.off = true
	}
	return !p.off
}

func (p *plan) append(zone int, b []byte) (int, api.Errno) {
	if zone < 0 || zone >= p.g.Zones {
		return 0, errArg
	}
	if len(b) != size {
		return 0, errLen
	}
	if !p.op() {
		return 0, errOff
	}
	if len(p.zones[zone]) == p.g.Size {
		return 0, errFull
	}
	p.zones[zone] = append(p.zones[zone], laid{data: string(b)})
	return len(p.zones[zone]) - 1, api.OK
}

func (p *plan) reset(zone int) api.Errno {
	if zone < 0 || zone >= p.g.Zones {
		return errArg
	}
	if !p.op() {
		return errOff
	}
	p.zones[zone] = nil
	return api.OK
}

func (p *plan) flush() api.Errno {
	if !p.op() {
		return errOff
	}
	for _, z := range p.zones {
		for i := range z {
			z[i].durable = true
		}
	}
	return api.OK
}

func (p *plan) read(zone, at int) (string, api.Errno) {
	if zone < 0 || zone >= p.g.Zones {
		return "", errArg
	}
	if at < 0 || at >= len(p.zones[zone]) {
		return "", errNone
	}
	p.reads++
	return p.zones[zone][at].data, api.OK
}

func (p *plan) cut(n int) {
	if !p.off {
		p.end = p.ops + max(n, 0) + 1
	}
}

func (p *plan) crash(picks, torn []int) *plan {
	after := &plan{g: p.g}
	for k, z := range p.zones {
		var all [][]byte
		durable := 0
		for _, b := range z {
			all = append(all, []byte(b.data))
			if b.durable {
				durable++
			}
		}
		var left []laid
		for _, b := range remains(all, durable, k, picks, torn) {
			left = append(left, laid{string(b), true})
		}
		after.zones = append(after.zones, left)
	}
	return after
}

func (p *plan) copy() *plan {
	twin := *p
	twin.zones = nil
	for _, z := range p.zones {
		twin.zones = append(twin.zones, slices.Clone(z))
	}
	return &twin
}

func (p *plan) check(t *testing.T, d *Dev) {
	t.Helper()
	if d.Geometry() != p.g || d.Ops() != p.ops || d.Reads() != p.reads || d.Off() != p.off {
		t.Fatalf("%v, %d ops, %d reads, off %v; want %v, %d, %d, %v", d.Geometry(), d.Ops(), d.Reads(), d.Off(), p.g, p.ops, p.reads, p.off)
	}
	for zone, z := range p.zones {
		checkNumber(t, "Pointer", pointer(t, d, zone), len(z))
	}
}

func (p *plan) checkBlocks(t *testing.T, d *Dev) {
	t.Helper()
	for zone, z := range p.zones {
		for at := range z {
			p.checkRead(t, d, zone, at)
		}
	}
	p.check(t, d)
}

func (p *plan) checkRead(t *testing.T, d *Dev, zone, at int) {
	t.Helper()
	b, code := d.Read(zone, at)
	if want, e := p.read(zone, at); string(b) != want || code != e {
		t.Fatalf("Read(%d, %d) = % x, %d, want % x, %d", zone, at, b, code, want, e)
	}
}

func thrownList(throw func(int) int) []int {
	var l []int
	for range throw([]int{5, 80}[throw(2)]) { // fewer than there are zones, and more
		l = append(l, throw(500)-250)
	}
	return l
}

// thrownZone is often the first one, so that it fills up, and now and then none.
func (p *plan) thrownZone(throw func(int) int) int {
	switch c := throw(40); {
	case c < 2:
		return []int{-1, p.g.Zones, 1000}[throw(3)]
	case c < 20:
		return 0
	}
	return throw(p.g.Zones)
}

// step does one thrown call to both, and answers what goes on: mostly the same two.
func (p *plan) step(t *testing.T, d *Dev, throw func(int) int) (*plan, *Dev) {
	t.Helper()
	zone := p.thrownZone(throw)
	switch c := throw(1000); {
	case c < 5 || p.off && c < 100:
		picks, torn := thrownList(throw), thrownList(throw)
		return p.crash(picks, torn), d.Crash(picks, torn)
	case c < 700:
		b := numbered(throw(1 << 16))
		if throw(30) == 0 {
			b = make([]byte, throw(100))
		}
		at, code := d.Append(zone, b)
		if want, e := p.append(zone, b); at != want || code != e {
			t.Fatalf("Append(%d, %d bytes) = %d, %d, want %d, %d", zone, len(b), at, code, want, e)
		}
	case c < 705:
		checkCode(t, "Reset", d.Reset(zone), p.reset(zone))
	case c < 770:
		checkCode(t, "Flush", d.Flush(), p.flush())
	case c < 980:
		p.checkRead(t, d, zone, throw(p.g.Size+4)-2)
	case c < 985:
		n := throw(60) - 3
		d.Cut(n)
		p.cut(n)
	case c < 990:
		p.checkBlocks(t, d)
	case c < 994:
		return p.copy(), d.Copy()
	}
	return p, d
}

// Thrown calls, on devices of each kind, through cuts, crashes and copies, are held to the plan's; the devices that were left behind stay as they were.
func TestP9_6Thrown(t *testing.T) {
	for seed := range 12 {
		throw := dice(uint64(seed))
		g := api.Geometry{Zones: []int{8, 9, 64}[seed%3], Size: []int{96, 192}[seed%2]}
		d, p := made(t, g), &plan{g: g, zones: make([][]laid, g.Zones)}
		full := 0
		var olds []*Dev
		var plans []*plan
		for range 6000 {
			next, dev := p.step(t, d, throw)
			if dev != d {
				olds, plans = append(olds, d), append(plans, p)
			}
			p, d = next, dev
			p.check(t, d)
			if len(p.zones[0]) == g.Size {
				full++
			}
		}
		for i, old := range olds {
			plans[i].checkBlocks(t, old)
		}
		if len(olds) < 50 || full < 100 {
			t.Errorf("the throws are one-sided: %d devices, %d steps with a zone that is full", len(olds), full)
		}
	}
}
