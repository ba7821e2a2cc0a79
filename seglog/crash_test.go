package seglog

import (
	"fmt"
	"testing"

	"scarp/api"
	"scarp/zdev"
)

// move is one call of a story: Append of so many records, or Trim of so many of those that are there, or an Open.
type move struct {
	add, trim int
	open      bool
}

// tale is a log in zones of a device, what it is known to be, and what else a call that returned ErrOff may have made of it.
type tale struct {
	d         *zdev.Dev
	low, high int
	l         *Log
	known     sheet
	other     sheet
	quick     bool // whether the records are read only where it crashed or ends
}

// move makes a move and tells whether the power was on.
func (s *tale) move(t testing.TB, m move) bool {
	t.Helper()
	switch {
	case m.open:
		l, e := Open(s.d, s.low, s.high)
		if e == api.OK {
			s.l = l
			check(t, "opened", l, s.known)
		}
		return s.on(t, e)
	case m.add > 0:
		r := records(len(s.known.all), m.add)
		k, e := s.l.Append(r...)
		if e == errSpace && s.known.live()+m.add > s.room() {
			return s.stays(t)
		}
		s.other = s.known.with(r...)
		if e == api.OK && k != len(s.known.all) || e != api.OK && k != 0 {
			t.Fatalf("Append: %d, %d", k, e)
		}
		return s.on(t, e)
	}
	s.other = s.known.from(min(s.known.first+m.trim, len(s.known.all)))
	return s.on(t, s.l.Trim(s.other.first))
}

// room is how many records the log is promised to have room for.
func (s *tale) room() int { return room(s.high-s.low+1, s.d.Geometry().Size) }

// stays holds the log to be as it was, as there was no room.
func (s *tale) stays(t testing.TB) bool {
	t.Helper()
	check(t, "no room", s.l, s.known)
	if s.l.Dead() {
		t.Fatal("dead of no room")
	}
	return true
}

// on holds the log to what it is behind a call, and tells whether the power was on.
func (s *tale) on(t testing.TB, e api.Errno) bool {
	t.Helper()
	switch e {
	case api.OK:
		s.known = s.other
		checkFree(t, s.l)
		if !s.quick || s.l.First() != s.known.first || s.l.Len() != len(s.known.all) {
			check(t, "on", s.l, s.known)
		}
		return true
	case errOff:
		if !s.d.Off() {
			t.Fatal("ErrOff, but the power is on")
		}
		s.mustBeEither(t, "off", s.l)
		return false
	}
	t.Fatalf("a call returned %d", e)
	return false
}

func (s *tale) mustBeEither(t testing.TB, what string, l *Log) sheet {
	t.Helper()
	wrong := s.known.differs(l)
	if wrong == "" {
		return s.known
	}
	if other := s.other.differs(l); other != "" {
		t.Fatalf("%s: neither what it was (%s) nor what it was to be (%s)", what, wrong, other)
	}
	return s.other
}

// started is a tale on a new device.
func started(t testing.TB, low, high, size int) *tale {
	t.Helper()
	d := made(t, leastDev, size)
	return &tale{d: d, low: low, high: high, l: opened(t, d, low, high)}
}

// crash takes the power away, and then the log is what is opened behind it.
func (s *tale) crash(t testing.TB, picks, torn []int) {
	t.Helper()
	s.d = s.d.Crash(picks, torn)
	l, e := Open(s.d, s.low, s.high)
	if e != api.OK {
		t.Fatalf("Open behind a crash: %d", e)
	}
	checkFree(t, l)
	s.known = s.mustBeEither(t, "crashed", l)
	s.other, s.l = s.known, l
}

// checkFree holds a log to having as many free zones as it takes to write all of its records anew.
func checkFree(t testing.TB, l *Log) {
	t.Helper()
	perZone := l.now.size - 1
	need := max(1, (l.Len()-l.First()+perZone-1)/perZone)
	if free := l.now.zones - len(l.now.starts); free < need {
		t.Fatalf("%d records from %d on, but %d zones free", l.Len()-l.First(), l.First(), free)
	}
}

// tell makes moves until the power is off and tells how many it made.
func (s *tale) tell(t testing.TB, moves []move) int {
	t.Helper()
	for k, m := range moves {
		if !s.move(t, m) {
			return k
		}
	}
	return len(moves)
}

// copyOf is the tale as it stands, on a device of its own, which is one that crashed.
func (s *tale) crashed(picks, torn []int) *tale {
	c := *s
	c.d, c.l = s.d.Crash(picks, torn), nil
	return &c
}

// loose is how many blocks of a device aren't durable.
func loose(d *zdev.Dev) int {
	n := 0
	sure := d.Crash(nil, nil)
	for k := range d.Geometry().Zones {
		all, _ := d.Pointer(k)
		kept, _ := sure.Pointer(k)
		n += all - kept
	}
	return n
}

// goOn holds a log that was opened behind a crash to be one as any other: it takes all that is promised, and gives its room back.
func (s *tale) goOn(t testing.TB) {
	t.Helper()
	must := func(m move) {
		t.Helper()
		if !s.move(t, m) {
			t.Fatalf("%v: the power is off", m)
		}
	}
	if over := s.known.live() + 1 - s.room(); over > 0 {
		must(move{trim: over})
	}
	must(move{add: 1})
	must(move{trim: s.known.live() / 2})
	for s.known.live() < s.room() {
		must(move{add: min(mostGroup, s.room()-s.known.live())})
	}
	must(move{open: true})
	must(move{trim: 1})
	must(move{add: 1})
}

// stories are of logs of 2, 3 and 5 zones: groups and trims of all kinds, so that zones are left, written anew, and used again.
var stories = map[int][]move{
	2: {
		{add: 3}, {trim: 1}, {add: 40}, {trim: 0}, {trim: 20}, {open: true}, {add: 20}, {trim: 41}, {add: 1}, {add: 1}, {trim: 99},
		{add: 39}, {trim: 38}, {add: 40}, {trim: 2}, {trim: 1}, {trim: 1}, {add: 3}, {trim: 40}, {trim: 99}, {trim: 99}, {add: 2},
	},
	3: {
		{add: 40}, {add: 40}, {add: 8}, {trim: 1}, {trim: 1}, {trim: 1}, {add: 3}, {trim: 6}, {trim: 1}, {open: true}, {add: 7}, {trim: 40},
		{add: 40}, {trim: 60}, {add: 30}, {trim: 99}, {add: 20}, {trim: 3},
	},
	4: { // past the promised room, up to no space
		{add: 40}, {add: 40}, {add: 40}, {add: 40}, {add: 30}, {add: 1}, {trim: 100}, {add: 40}, {add: 40}, {add: 40}, {trim: 1}, {trim: 1},
		{open: true}, {trim: 95}, {trim: 60},
	},
	5: {
		{add: 40}, {add: 40}, {add: 40}, {trim: 90}, {add: 40}, {add: 40}, {trim: 1}, {add: 40}, {add: 40}, {trim: 0}, {trim: 5},
		{trim: 160}, {add: 40}, {trim: 70}, {add: 12}, {open: true}, {trim: 1}, {trim: 99},
	},
}

// inParts runs a test for each story, its cuts divided among a few that run at the same time.
func inParts(t *testing.T, test func(t *testing.T, zones int, cuts []int)) {
	const parts = 4
	for zones, moves := range stories {
		whole := started(t, 0, zones-1, 96)
		before := whole.d.Ops()
		if whole.tell(t, moves) != len(moves) {
			t.Fatal("the power is off")
		}
		var cuts [parts][]int
		for cut := range whole.d.Ops() - before + 1 {
			cuts[cut%parts] = append(cuts[cut%parts], cut)
		}
		for part, l := range cuts {
			t.Run(fmt.Sprint(zones, " ", part), func(t *testing.T) {
				t.Parallel()
				test(t, zones, l)
			})
		}
	}
}

// The power is cut at each op of a story, and of what is not durable nothing, all, or something between is left, torn and not.
func TestP18_4EachCut(t *testing.T) {
	inParts(t, func(t *testing.T, zones int, cuts []int) {
		ways := 0
		for _, cut := range cuts {
			s := started(t, 8-zones, 7, 96)
			s.quick = true
			s.d.Cut(cut)
			s.tell(t, stories[zones])
			all := loose(s.d)
			for kept := range all + 1 {
				if kept > 2 && kept < all-1 && (kept+cut)%5 != 0 {
					continue // one of many blocks in the middle of a group
				}
				for torn := range 2 {
					c := s.crashed([]int{kept}, []int{torn})
					c.crash(t, nil, nil)
					if (cut+kept)%11 == 0 {
						c.goOn(t)
					}
					ways++
				}
			}
		}
		if ways < 4*len(cuts) {
			t.Errorf("%d ways of %d cuts", ways, len(cuts))
		}
	})
}

// Each way in which an Open can be cut off, behind cuts of a story; and within the Open behind that one once more.
func TestP18_4EachCutOfOpen(t *testing.T) {
	inParts(t, func(t *testing.T, zones int, cuts []int) {
		repairs := 0
		for _, cut := range cuts {
			if cut/4%8 != 0 {
				continue
			}
			s := started(t, 3, 2+zones, 96)
			s.quick = true
			s.d.Cut(cut)
			s.tell(t, stories[zones])
			first := s.crashed([]int{cut * 5}, []int{cut / 2, 1})
			for ops := 0; ; ops++ {
				again := first.crashed(nil, nil)
				again.d.Cut(ops)
				if _, e := Open(again.d, again.low, again.high); e == api.OK {
					repairs += min(ops-1, 1)
					break
				} else if e != errOff {
					t.Fatalf("cut %d, Open after %d: %d", cut, ops, e)
				}
				second := again.crashed([]int{ops * 3, cut}, []int{ops, 1, cut})
				third := second.crashed(nil, nil)
				third.d.Cut(cut*7%23 + 1)
				Open(third.d, third.low, third.high)
				third.crash(t, []int{cut + ops}, []int{1, cut, ops})
				second.crash(t, nil, nil)
				if (cut+ops)%29 == 0 {
					second.goOn(t)
					third.goOn(t)
				}
			}
		}
		if repairs == 0 {
			t.Error("nothing was ever to be repaired")
		}
	})
}

// Crashes without end use up nothing: not those of Append at one place, not those of the Opens behind them.
func TestP18_4CrashesWithoutEnd(t *testing.T) {
	t.Parallel()
	for _, zones := range []int{2, 3, 4, 6} {
		for _, live := range []int{0, 1, room(zones, 96) - 5, room(zones, 96)} {
			s := started(t, 0, zones-1, 96)
			for s.known.live() < live {
				s.move(t, move{add: min(mostGroup, live-s.known.live())})
			}
			for k := range 250 {
				s.d.Cut(k % 9)
				m := move{add: 5}
				if s.known.live() >= s.room() {
					m = move{trim: 1}
				}
				for range 3 {
					if !s.move(t, m) {
						break
					}
				}
				for j := range k % 4 {
					s.d = s.d.Crash([]int{k, -1, 99 - k}, []int{1, k})
					s.d.Cut((k + j) % 7)
					Open(s.d, s.low, s.high)
				}
				s.crash(t, []int{-1 - k%3}, []int{1})
				if s.known.live() > live {
					s.move(t, move{trim: s.known.live() - live})
				}
			}
			s.goOn(t)
		}
	}
}

// An Open that is always cut off before its end leaves what the next one needs.
func TestP18_4OpensWithoutEnd(t *testing.T) {
	t.Parallel()
	for _, kept := range []int{-1, 0, 1} {
		s := started(t, 2, 4, 96)
		s.tell(t, []move{{add: 40}, {add: 40}, {trim: 1}, {add: 8}})
		s.d.Cut(1)
		s.move(t, move{trim: 1})
		s.d = s.d.Crash(nil, []int{1}) // leaves a torn block, so that all is to be written anew
		for k := range 500 {
			s.d.Cut(k % 80)
			if _, e := Open(s.d, 2, 4); e != errOff {
				t.Fatalf("Open after %d ops: %d", k%80, e)
			}
			s.d = s.d.Crash([]int{kept}, []int{k})
		}
		s.crash(t, nil, nil)
		s.goOn(t)
	}
}

// A crash of a log at rest changes nothing, whatever its picks and torn.
func TestP18_4CrashAtRest(t *testing.T) {
	for zones, moves := range stories {
		s := started(t, 0, zones-1, 96)
		for k, m := range moves {
			s.move(t, m)
			if n := loose(s.d); n != 0 {
				t.Fatalf("%d zones, move %d: %d blocks aren't durable", zones, k, n)
			}
			for _, way := range [][]int{nil, {0}, {1}, {-1, 7}, {3, 1, 5}} {
				c := s.crashed(way, way)
				c.other = c.known
				c.crash(t, way, way)
			}
		}
	}
}

// thrown throws a move.
func thrown(throw func(int) int, live int) move {
	switch throw(12) {
	case 0:
		return move{open: true}
	case 1:
		return move{trim: live}
	case 2, 3:
		return move{trim: throw(3)}
	case 4, 5:
		return move{trim: throw(live + 1)}
	case 6, 7:
		return move{add: mostGroup}
	case 8, 9:
		return move{add: 1 + throw(3)}
	}
	return move{add: 1 + throw(mostGroup)}
}

// throwList throws a list of picks or torn; each third one keeps all, or tears all that is torn.
func throwList(throw func(int) int) []int {
	if throw(3) == 0 {
		return []int{-1}
	}
	var l []int
	for range throw(5) {
		l = append(l, throw(200)-60)
	}
	return l
}

// Thrown moves, cuts and crashes, each log through many of them.
func TestP18_4Thrown(t *testing.T) {
	for seed := range 40 {
		t.Run(fmt.Sprint(seed), func(t *testing.T) {
			t.Parallel()
			throw := dice(uint64(seed))
			zones := 2 + seed%7
			low := throw(8 - zones + 1)
			s := started(t, low, low+zones-1, []int{96, 97, 120}[seed%3])
			off, moves, both := 0, 0, [2]int{}
			for range 150 {
				if throw(3) > 0 {
					s.d.Cut(throw(60))
				}
				for range throw(14) {
					moves++
					m := thrown(throw, s.known.live())
					if throw(6) == 0 {
						s.d.Cut(max(1, m.add)) // mostly at the flush behind all blocks
					}
					if !s.move(t, m) {
						off++
						break
					}
				}
				for range throw(4) {
					s.d = s.d.Crash(throwList(throw), throwList(throw))
					s.d.Cut(throw(150))
					Open(s.d, s.low, s.high)
				}
				was, other := s.known, s.other
				s.crash(t, throwList(throw), throwList(throw))
				if other.first != was.first || len(other.all) != len(was.all) {
					both[min(1, (s.known.first-was.first)+(len(s.known.all)-len(was.all)))]++
				}
			}
			if off < 30 || moves < 200 || both[0] < 10 || both[1] < 2 {
				t.Errorf("one-sided: %d moves, %d cut off, %v", moves, off, both)
			}
			s.goOn(t)
		})
	}
}

// Two logs of one device, behind crashes of both: neither finds anything of the other.
func TestP18_4TwoLogs(t *testing.T) {
	t.Parallel()
	throw := dice(99)
	d := made(t, 8, 96)
	logs := [2]*tale{{d: d, low: 0, high: 3}, {d: d, low: 4, high: 7}}
	for _, s := range logs {
		s.l = opened(t, d, s.low, s.high)
	}
	for range 120 {
		if throw(4) > 0 {
			logs[0].d.Cut(throw(90))
		}
	moves:
		for range throw(30) {
			for _, s := range logs {
				if !s.move(t, thrown(throw, s.known.live())) {
					break moves
				}
			}
		}
		d := logs[0].d.Crash(throwList(throw), throwList(throw))
		for _, k := range []int{throw(2), 0, 1} {
			s := logs[k]
			before := fmt.Sprint(image(t, d)[4-s.low : 8-s.low])
			s.d = d
			s.crash(t, nil, nil)
			d = s.d
			if fmt.Sprint(image(t, d)[4-s.low:8-s.low]) != before {
				t.Fatal("Open changed the zones of the other log")
			}
		}
		// Each crash made a device of its own: both go on on the last one.
		for _, s := range logs {
			s.d, s.l = d, opened(t, d, s.low, s.high)
			check(t, "on", s.l, s.known)
		}
	}
	for _, s := range logs {
		s.goOn(t)
	}
}
