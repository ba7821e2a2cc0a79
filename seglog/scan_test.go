package seglog

import (
	"bytes"
	"encoding/binary"
	"fmt"
	"math"
	"slices"
	"testing"

	"scarp/api"
	"scarp/batch"
	"scarp/frame"
)

// raw is a block as chapter 8 encodes it.
func raw(kind, epoch, seq, lba int, body ...byte) []byte {
	p, e := frame.Encode(frame.Block{Kind: kind, Epoch: epoch, Seq: seq, LBA: lba, Body: body})
	if e != api.OK {
		panic(fmt.Sprint("no block: ", kind, epoch, seq, lba, len(body), e))
	}
	return p
}

func rawHead(epoch, first, next, due int) []byte {
	return raw(3, epoch, next, due, binary.LittleEndian.AppendUint64(nil, uint64(first))...)
}

// rawGroup is the last n records of a group, from record k on.
func rawGroup(epoch, k, n int) [][]byte {
	var l [][]byte
	for rest := n - 1; rest > 0; rest-- {
		l = append(l, raw(1, epoch, k, rest, record(k)...))
		k++
	}
	return append(l, raw(2, epoch, k, 0, record(k)...))
}

func rawMark(epoch, first int) []byte { return raw(4, epoch, first, 0) }

// torn is what chapter 9 leaves of a block of which the first half was written.
func torn(p []byte) []byte {
	p = slices.Clone(p)
	for i := 32; i < len(p); i++ {
		p[i] ^= 0x55
	}
	return p
}

func cat(l ...[][]byte) [][]byte { return slices.Concat(l...) }

func one(p []byte) [][]byte { return [][]byte{p} }

// onto is a device of 8 zones of 96 in which these zones stand from zone low on.
func onto(low int, zones ...[][]byte) [][][]byte {
	all := make([][][]byte, 8)
	copy(all[low:], zones)
	return all
}

func clone(zones [][][]byte) [][][]byte {
	zones = slices.Clone(zones)
	for k := range zones {
		zones[k] = slices.Clone(zones[k])
	}
	return zones
}

func checkBad(t *testing.T, what string, zones [][][]byte, low, high int) {
	t.Helper()
	d := device(t, 96, zones)
	ops := d.Ops()
	if l, e := Open(d, low, high); l != nil || e != errBad {
		t.Errorf("%s: %v, %d, want ErrBad", what, l, e)
	}
	if d.Ops() != ops {
		t.Errorf("%s: refused behind ops", what)
	}
}

// checkGood opens what crashes can have left and holds it to be a log as any other.
func checkGood(t *testing.T, what string, zones [][][]byte, low, high int, want sheet) {
	t.Helper()
	d := device(t, 96, zones)
	l, e := Open(d, low, high)
	if e != api.OK {
		t.Errorf("%s: %d, want OK", what, e)
		return
	}
	check(t, what, l, want)
	check(t, what+", again", opened(t, d.Crash(nil, nil), low, high), want)
	s := &tale{d: d, low: low, high: high, l: l, known: want, other: want}
	s.goOn(t)
}

// lived is the zones of logs in zones 1 to 4 that have seen something, and what is in them.
func lived(t *testing.T) map[string][][][]byte {
	t.Helper()
	all := map[string][][][]byte{}
	s := started(t, 1, 4, 96)
	keep := func(name string, moves ...move) {
		s.tell(t, moves)
		all[name] = image(t, s.d)
	}
	keep("one record", move{add: 1})
	keep("two groups", move{add: 5})
	keep("a mark", move{trim: 2})
	keep("two zones", move{add: 40}, move{add: 40}, move{add: 20})
	keep("a mark in the second zone", move{trim: 3})
	keep("one zone freed", move{trim: 94}, move{add: 40}, move{add: 39})
	keep("all trimmed", move{trim: 999})
	keep("written anew", move{add: 40}, move{add: 40}, move{add: 40})
	return all
}

// A block in another place, or another one in its place, cannot be of this package.
func TestP18_1BadBlocks(t *testing.T) {
	t.Parallel()
	for name, zones := range lived(t) {
		if l := opened(t, device(t, 96, zones), 1, 4); l.Len() == 0 {
			t.Fatal(name)
		}
		for k := 1; k <= 4; k++ {
			last := len(zones[k]) - 1
			for at, p := range zones[k] {
				what := fmt.Sprintf("%s: zone %d, block %d", name, k, at)
				put := func(how string, l ...[]byte) {
					bad := clone(zones)
					bad[k] = cat(bad[k][:at], l, bad[k][at+1:])
					if len(bad[k]) <= 96 {
						checkBad(t, what+how, bad, 1, 4)
					}
				}
				put(" is nothing", make([]byte, blockSize))
				put(" twice", p, p)
				put(" torn twice", torn(p), torn(p))
				put(" torn ahead of itself", torn(p), p)
				put(" behind nothing", make([]byte, blockSize), p)
				put(" ahead of nothing", p, make([]byte, blockSize))
				put(" ahead of junk", p, bytes.Repeat([]byte{7}, blockSize))
				for _, bit := range []int{0, 1, 2, 9, 17, 51, 113, 147, 200, 255, 256, 300, 463, 479, 480, 511} {
					flipped := slices.Clone(p)
					flipped[bit/8] ^= 1 << (bit % 8)
					put(fmt.Sprint(" with bit ", bit), flipped)
					put(fmt.Sprint(" torn with bit ", bit), torn(flipped))
				}
				if at < last {
					if p[0] != frame.Mark { // without a mark, it is a log that was trimmed by one call less
						put(" is missing")
					}
					put(" torn", torn(p))
					put(" behind the next", zones[k][at+1], p)
				}
			}
		}
	}
}

// Each single bit of a small log.
func TestP18_1BadBits(t *testing.T) {
	zones := lived(t)["a mark"]
	for at, p := range zones[1] {
		for bit := range blockSize * 8 {
			bad := clone(zones)
			bad[1][at] = slices.Clone(p)
			bad[1][at][bit/8] ^= 1 << (bit % 8)
			checkBad(t, fmt.Sprintf("block %d, bit %d", at, bit), bad, 1, 4)
		}
	}
}

// Zones that are missing, in another order, or there twice.
func TestP18_1BadZones(t *testing.T) {
	for name, zones := range lived(t) {
		used := 0
		for k := 1; k <= 4; k++ {
			used += min(1, len(zones[k]))
		}
		for k := 1; k <= 4; k++ {
			for j := 1; j <= 4; j++ {
				what := fmt.Sprintf("%s: zones %d and %d", name, k, j)
				if k < j && len(zones[k])+len(zones[j]) > 0 && used > 1 {
					bad := clone(zones)
					bad[k], bad[j] = bad[j], bad[k]
					checkBad(t, what+" changed", bad, 1, 4)
				}
				if k != j && len(zones[k]) > 0 {
					bad := clone(zones)
					bad[j] = bad[k]
					if used > 1 || len(bad[k]) > 0 {
						checkBad(t, what+" alike", bad, 1, 4)
					}
				}
				if k != j && len(zones[k]) == 96 && len(zones[j]) > 0 {
					bad := clone(zones)
					bad[k] = bad[k][:95]
					checkBad(t, what+", a block missing", bad, 1, 4)
				}
			}
			if len(zones[k]) == 0 {
				for how, p := range map[string][]byte{"nothing": make([]byte, blockSize), "junk": bytes.Repeat([]byte{200}, blockSize), "a mark": rawMark(0, 1), "a record": raw(2, 0, 0, 0), "a head": rawHead(0, 0, 0, 0)} {
					bad := clone(zones)
					bad[k] = one(p)
					if how == "a head" && k == 1 {
						continue
					}
					checkBad(t, fmt.Sprintf("%s: %s in zone %d", name, how, k), bad, 1, 4)
				}
			}
		}
	}
	zones := lived(t)["two zones"]
	zones[1] = nil
	checkBad(t, "records that are there are missing", zones, 1, 4)
}

// What stands in the zones of others is of no matter.
func TestP18_1OtherZones(t *testing.T) {
	zones := lived(t)["a mark"]
	for _, k := range []int{0, 5, 7} {
		zones[k] = [][]byte{make([]byte, blockSize), bytes.Repeat([]byte{9}, blockSize)}
	}
	checkGood(t, "junk beside", zones, 1, 4, sheet{first: 2, all: records(0, 6)})
	for _, z := range [][2]int{{0, 4}, {1, 5}, {0, 7}, {0, 1}, {4, 5}, {6, 7}} {
		checkBad(t, fmt.Sprint("with the junk: ", z), zones, z[0], z[1])
	}
	all, _ := batch.Encode(api.Batch{Num: 1, Txs: []api.Tx{{Time: 1, Puts: []api.Put{{LBA: 1, Data: make([]byte, 40)}}}}}, 0)
	checkBad(t, "a batch", onto(1, all), 1, 4)
}

// start is the beginning of a log: six records and a mark.
func start() [][]byte {
	return cat(one(rawHead(0, 0, 0, 0)), rawGroup(0, 0, 1), rawGroup(0, 1, 5), one(rawMark(0, 2)))
}

// full is a zone that begins so and is full, with record 94 as the last one, and many of a second one.
func full() [2][][]byte {
	zone := one(rawHead(0, 0, 0, 0))
	for k := 0; k < 80; k += 40 {
		zone = cat(zone, rawGroup(0, k, 40))
	}
	crossing := rawGroup(0, 80, 15+5)[:15]
	return [2][][]byte{cat(zone, crossing), cat(one(rawHead(0, 0, 95, 5)), rawGroup(0, 95, 5))}
}

// What is laid by hand as the package lays it is a log.
func TestP18_1LaidByHand(t *testing.T) {
	checkGood(t, "start", onto(1, start()), 1, 3, sheet{2, records(0, 6)})
	checkGood(t, "a head alone", onto(1, one(rawHead(0, 0, 0, 0))), 1, 3, sheet{})
	checkGood(t, "a torn head alone", onto(1, one(torn(rawHead(0, 0, 0, 0)))), 1, 3, sheet{})
	checkGood(t, "a torn record", onto(1, cat(start(), one(torn(raw(2, 0, 6, 0, 1))))), 1, 3, sheet{2, records(0, 6)})
	checkGood(t, "a torn mark", onto(1, cat(start(), one(torn(rawMark(0, 6))))), 1, 3, sheet{2, records(0, 6)})
	checkGood(t, "a part of a group", onto(1, cat(start(), rawGroup(0, 6, 40)[:39])), 1, 3, sheet{2, records(0, 6)})
	checkGood(t, "a torn part of a group", onto(1, cat(start(), rawGroup(0, 6, 40)[:39], one(torn(rawGroup(0, 45, 1)[0])))), 1, 3, sheet{2, records(0, 6)})
	two := full()
	checkGood(t, "two zones", onto(1, two[0], two[1]), 1, 4, sheet{0, records(0, 100)})
	checkGood(t, "two zones, the second one torn", onto(1, two[0], one(torn(two[1][0]))), 1, 4, sheet{0, records(0, 80)})
	checkGood(t, "two zones, a head in the second one", onto(1, two[0], two[1][:1]), 1, 4, sheet{0, records(0, 80)})
	checkGood(t, "two zones, a part in the second one", onto(1, two[0], two[1][:5]), 1, 4, sheet{0, records(0, 80)})
	checkGood(t, "one full zone", onto(1, two[0]), 1, 4, sheet{0, records(0, 80)})
	checkGood(t, "a mark in the second zone", onto(1, two[0], cat(two[1], one(rawMark(0, 95)))), 1, 4, sheet{95, records(0, 100)})
	checkGood(t, "the first one freed", onto(1, nil, cat(two[1], one(rawMark(0, 95)))), 1, 4, sheet{95, records(0, 100)})
	checkGood(t, "a later turn", onto(1, nil, cat(one(rawHead(3, 90, 95, 0)), rawGroup(3, 95, 2), one(rawMark(3, 96)))), 1, 4, sheet{96, append(make([][]byte, 95), records(95, 2)...)})

	old, anew := start(), cat(one(rawHead(0, 2, 2, 4)), rawGroup(0, 2, 4))
	six := sheet{2, records(0, 6)}
	checkGood(t, "written anew", onto(1, old, anew), 1, 3, six)
	checkGood(t, "written anew, behind a torn block", onto(1, cat(old, one(torn(rawMark(0, 3)))), anew), 1, 3, six)
	checkGood(t, "written anew, behind a part", onto(1, cat(old, rawGroup(0, 6, 3)[:2]), anew), 1, 3, six)
	checkGood(t, "written anew, the old one freed", onto(1, nil, anew), 1, 3, six)
	checkGood(t, "written anew, and on", onto(1, nil, cat(anew, rawGroup(0, 6, 1))), 1, 3, sheet{2, records(0, 7)})
	checkGood(t, "written anew and trimmed", onto(1, old, cat(one(rawHead(0, 4, 4, 2)), rawGroup(0, 4, 2))), 1, 3, sheet{4, records(0, 6)})
	checkGood(t, "written anew, nothing is left", onto(1, old, one(rawHead(0, 6, 6, 0))), 1, 3, sheet{6, records(0, 6)})
	checkGood(t, "partly written anew", onto(1, old, anew[:4]), 1, 3, six)
	checkGood(t, "partly written anew, torn", onto(1, old, cat(anew[:4], one(torn(anew[4])))), 1, 3, six)
	checkGood(t, "partly written anew, behind a part", onto(1, cat(old, rawGroup(0, 6, 3)[:2]), anew[:1]), 1, 3, six)
}

// Every way in which what is laid by hand is not as the package lays it.
func TestP18_1BadByHand(t *testing.T) {
	bad := func(what string, zones ...[][]byte) {
		t.Helper()
		checkBad(t, what, onto(1, zones...), 1, 3)
		checkBad(t, what+", four zones", onto(1, zones...), 1, 4)
	}
	s := start()
	with := func(what string, l ...[]byte) {
		t.Helper()
		bad(what, cat(s, l))
	}
	with("a record too far", raw(2, 0, 7, 0))
	with("a record again", raw(2, 0, 5, 0))
	with("a record of another epoch", raw(2, 1, 6, 0))
	with("no last one of a group of one", raw(1, 0, 6, 0))
	with("a last one that isn't", raw(2, 0, 6, 1))
	with("a group of 41", rawGroup(0, 6, 41)...)
	with("the first one of a group of 41", rawGroup(0, 6, 41)[:1]...)
	with("a torn one of a group of 41", torn(rawGroup(0, 6, 41)[0]))
	with("a group of too many", raw(1, 0, 6, api.MaxLBA))
	with("a gap in a group", rawGroup(0, 6, 3)[0], raw(2, 0, 7, 0))
	with("a group that grows", rawGroup(0, 6, 3)[0], raw(1, 0, 7, 2))
	with("a mark in a group", rawGroup(0, 6, 3)[0], rawMark(0, 3))
	with("a mark of the first record", rawMark(0, 2))
	with("a mark behind", rawMark(0, 1))
	with("a mark past the end", rawMark(0, 7))
	with("a mark far past the end", rawMark(0, 1<<40))
	with("a mark of another epoch", rawMark(1, 3))
	with("a mark with a body", raw(4, 0, 3, 0, 0))
	with("a mark with a number", raw(4, 0, 3, 1))
	with("a head within the zone", rawHead(0, 2, 6, 0))
	with("a head anew within the zone", rawHead(0, 6, 6, 0))

	bad("a mark first", one(rawMark(0, 0)))
	bad("a record first", rawGroup(0, 0, 1))
	bad("a torn record first", one(torn(rawGroup(0, 0, 1)[0])))
	bad("a head of another epoch's log", one(rawHead(0, 0, 1, 0)))
	bad("a first record ahead of a head", one(rawHead(0, 1, 1, 0)))
	bad("records due of nothing", one(rawHead(0, 0, 0, 1)))
	bad("a torn head that wasn't first", one(torn(rawHead(0, 1, 1, 0))))
	bad("a torn head of a later turn", nil, one(torn(rawHead(0, 0, 0, 0))))
	bad("a head without a body", one(raw(3, 0, 0, 0)))
	bad("a head with a short body", one(raw(3, 0, 0, 0, make([]byte, 7)...)))
	bad("a head with a long body", one(raw(3, 0, 0, 0, make([]byte, 9)...)))
	bad("two torn heads", one(torn(rawHead(0, 0, 0, 0))), one(torn(rawHead(0, 0, 0, 0))))

	bad("a head of a later turn that is anew and incomplete", nil, one(rawHead(0, 2, 2, 4)))
	bad("a head of a later turn with an open group", nil, cat(one(rawHead(0, 2, 6, 3)), rawGroup(0, 6, 3)[:2]))
	bad("a head of a later turn with records that are missing", nil, cat(one(rawHead(0, 2, 6, 0)), one(rawMark(0, 5))))
	bad("a later turn with its first record behind the next", nil, one(rawHead(0, 7, 6, 0)))
	bad("a later turn with a great first record", nil, one(rawHead(0, math.MaxInt, 6, 0)))
	bad("a later turn with a first record below 0", nil, one(rawHead(0, -1, 6, 0)))
	bad("a later turn with more records than can be", nil, one(rawHead(0, 1<<40, 1<<40, 0)))
	bad("a later turn with just more records than can be", nil, one(rawHead(0, 1<<31+1, 1<<31+1, 0)))
	bad("a later turn with too many live ones", nil, cat(one(rawHead(0, 0, 300, 0)), one(rawMark(0, 300))))
	bad("a later turn with too many live ones to come", nil, cat(one(rawHead(0, 6, 6, 300)), rawGroup(0, 6, 95)))
	bad("an epoch that can't be", one(rawHead(1<<31, 6, 6, 0)))
	bad("the greatest epoch", one(rawHead(1<<32-1, 6, 6, 0)))
	bad("the greatest epoch in the next zone", start(), one(rawHead(1<<32-1, 6, 6, 0)))

	bad("a later turn and a mark, with its first record below 0", nil, cat(one(rawHead(0, -1, 6, 0)), one(rawMark(0, 6))))
	bad("a later turn and records, with its first record behind the next", nil, cat(one(rawHead(0, 7, 6, 0)), rawGroup(0, 6, 3)))

	anew := cat(one(rawHead(0, 2, 2, 4)), rawGroup(0, 2, 4))
	bad("written anew in another turn", start(), nil, anew)
	bad("written anew in another epoch", start(), cat(one(rawHead(1, 2, 2, 4)), rawGroup(1, 2, 4)))
	bad("written anew with less", start(), cat(one(rawHead(0, 2, 2, 3)), rawGroup(0, 2, 3)))
	bad("written anew with more", start(), cat(one(rawHead(0, 2, 2, 5)), rawGroup(0, 2, 5)))
	bad("written anew with what was trimmed", start(), cat(one(rawHead(0, 1, 1, 5)), rawGroup(0, 1, 5)))
	bad("written anew behind the end", start(), one(rawHead(0, 7, 7, 0)))
	bad("written anew and on, the old one is there", start(), cat(anew, rawGroup(0, 6, 1)))
	bad("written anew and trimmed, the old one is there", start(), cat(anew, one(rawMark(0, 4))))
	bad("written anew twice", start(), anew, anew)
	bad("written anew twice, once in part", start(), anew[:2], anew)
	bad("a torn head and then a zone", start(), one(torn(anew[0])), anew)
	bad("on in a next zone while there is room", start(), cat(one(rawHead(0, 2, 6, 0)), rawGroup(0, 6, 1)))
}

// A zone goes on where the one before ends, and nowhere else.
func TestP18_1BadNextZones(t *testing.T) {
	two := full()
	next := func(what string, l ...[][]byte) {
		t.Helper()
		checkBad(t, what, onto(1, two[0], cat(l...)), 1, 4)
	}
	next("another first record", one(rawHead(0, 1, 95, 5)), rawGroup(0, 95, 5))
	next("another next record", one(rawHead(0, 0, 94, 5)), rawGroup(0, 94, 5))
	next("fewer to come", one(rawHead(0, 0, 95, 4)), rawGroup(0, 95, 4))
	next("more to come", one(rawHead(0, 0, 95, 6)), rawGroup(0, 95, 6))
	next("nothing to come", one(rawHead(0, 0, 95, 0)), rawGroup(0, 95, 1))
	next("another group", one(two[1][0]), rawGroup(0, 95, 4))
	next("a mark within the group", one(two[1][0]), one(rawMark(0, 5)))
	next("anew with the part of a group", one(rawHead(0, 0, 0, 95)), rawGroup(0, 0, 95))
	checkBad(t, "a torn block ahead", onto(1, cat(two[0][:95], one(torn(two[0][95]))), two[1]), 1, 4)
	checkBad(t, "the second one alone", onto(1, nil, two[1]), 1, 4)
	checkBad(t, "a mark of which a record is missing", onto(1, nil, cat(two[1], one(rawMark(0, 94)))), 1, 4)
	freed := cat(two[1], one(rawMark(0, 95)))
	checkBad(t, "on while a zone is to be freed", onto(1, two[0], cat(freed, rawGroup(0, 100, 1))), 1, 4)
	checkBad(t, "a mark while a zone is to be freed", onto(1, two[0], cat(freed, one(rawMark(0, 96)))), 1, 4)
	checkBad(t, "anew while a zone is to be freed", onto(1, two[0], freed, cat(one(rawHead(0, 95, 95, 5)), rawGroup(0, 95, 5))), 1, 4)
	filled := cat(two[1], rawGroup(0, 100, 40), rawGroup(0, 140, 40), rawGroup(0, 180, 9), one(rawMark(0, 95)))
	on := cat(one(rawHead(0, 95, 189, 0)), rawGroup(0, 189, 1))
	checkBad(t, "on in a next zone while one is to be freed", onto(1, two[0], filled, on), 1, 6)
	checkBad(t, "a head while a zone is to be freed", onto(1, two[0], filled, on[:1]), 1, 6)
	checkGood(t, "on in a next zone", onto(1, nil, filled, on), 1, 6, sheet{95, records(0, 190)})
	checkBad(t, "a crossing for which there was no room", onto(1, two[0], two[1]), 1, 3)
	none := cat(one(rawHead(0, 0, 0, 0)), rawGroup(0, 0, 40), rawGroup(0, 40, 40), rawGroup(0, 80, 14), one(rawMark(0, 94)))
	all := sheet{first: 94, all: records(0, 94)}
	checkGood(t, "a full zone without records", onto(1, none), 1, 3, all)
	checkGood(t, "anew behind it", onto(1, none, one(rawHead(0, 94, 94, 0))), 1, 3, all)
	checkBad(t, "on behind it", onto(1, none, cat(one(rawHead(0, 94, 94, 0)), rawGroup(0, 94, 1))), 1, 3)
}

// Records that could not be written anew beside those zones are none that were appended.
func TestP18_1BadRoom(t *testing.T) {
	zones := make([][][]byte, 4)
	for k := range zones {
		zones[k] = one(rawHead(0, 0, 95*k, 0))
		if k == 0 {
			zones[k] = one(rawHead(0, 0, 0, 0))
		}
		zones[k] = cat(zones[k], rawGroup(0, 95*k, 40), rawGroup(0, 95*k+40, 40), rawGroup(0, 95*k+80, 15))
	}
	checkGood(t, "half of the zones", onto(0, zones[:2]...), 0, 3, sheet{all: records(0, 190)})
	checkBad(t, "more than half of the zones", onto(0, zones[0], zones[1], zones[2][:2]), 0, 3)
	checkBad(t, "more than half of the zones, records", onto(0, zones[0], zones[1], zones[2]), 0, 3)
	checkBad(t, "all zones", onto(0, zones...), 0, 3)
	checkGood(t, "of more zones", onto(0, zones...), 0, 7, sheet{all: records(0, 380)})
	checkBad(t, "a head for which there was no room", onto(0, zones[0], zones[1][:1]), 0, 1)
	checkBad(t, "a head for which there was no room, of two zones", onto(0, zones[0], zones[1], one(rawHead(0, 0, 190, 0))), 0, 3)
	checkBad(t, "a mark for which there was no room", onto(0, zones[0], zones[1], cat(one(rawHead(0, 0, 190, 0)), one(rawMark(0, 95)))), 0, 3)
	checkGood(t, "a head for which there was room", onto(0, zones[0], zones[1], one(rawHead(0, 0, 190, 0))), 0, 4, sheet{0, records(0, 190)})
	checkGood(t, "a mark for which there was room", onto(0, zones[0], zones[1], cat(one(rawHead(0, 0, 190, 0)), one(rawMark(0, 95)))), 0, 4, sheet{95, records(0, 190)})

	// What was there ahead of the oldest zone counts, as far as its Head tells.
	rest := rawGroup(0, 95, 100)
	checkBad(t, "more than there was room for, some of them trimmed", onto(0, nil, cat(one(rawHead(0, 0, 95, 100)), rest[:95]), cat(one(rawHead(0, 0, 190, 5)), rest[95:], one(rawMark(0, 95)))), 0, 2)
}
