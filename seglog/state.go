package seglog

import (
	"scarp/bits"
	"scarp/frame"
)

// ring is the zones of a log. In turn 0 the first one is used, and behind the last one comes the first one again.
type ring struct {
	low   int // the first zone
	zones int
	size  int // blocks of a zone
}

func (r ring) zone(turn int) int { return r.low + turn%r.zones }

// epoch is how often the zones were gone through before a turn. With the zone in which a block stands, it tells the turn.
func (r ring) epoch(turn int) int { return turn / r.zones }

// span is how many zones it takes to write so many records anew.
func (r ring) span(records int) int {
	return max(1, share(records, r.size-1))
}

// holds tells whether a log of so many records can be written anew, in zones beside those in which they stand.
func (r ring) holds(records int) bool {
	return 2*r.span(records) <= r.zones
}

// share is how many zones so many blocks take, room of them in each.
func share(blocks, room int) int {
	return (max(blocks, 0) + room - 1) / room
}

// spot is where a record stands.
type spot struct {
	zone  int
	block int
}

// state is how a log stands behind one of its blocks.
type state struct {
	ring
	first  int    // the first record that is there
	next   int    // the next record
	due    int    // how many records of the group that is begun are to come
	turn   int    // the next one
	starts []int  // which record was the next one when a zone was begun: of each zone in use, the oldest first
	filled int    // blocks in the newest of them
	spots  []spot // of the records from starts[0] on
}

// empty is the log of zones that are empty: it goes on as one whose newest zone is full.
func empty(r ring) state { return state{ring: r, filled: r.size} }

func (s *state) live() int { return s.next - s.first }

// oldest is the turn of the oldest zone in use.
func (s *state) oldest() int { return s.turn - len(s.starts) }

func (s *state) spotOf(k int) spot { return s.spots[k-s.starts[0]] }

// fits tells whether so many blocks can follow, with which there are so many records, and these can be written anew all the same. A log without records goes on in no other zone: written anew it has all of that zone, and frees the one before.
func (s *state) fits(blocks, records int) bool {
	more := share(blocks-(s.size-s.filled), s.size-1)
	if more > 0 && s.live() == 0 {
		return false
	}
	return s.zones-len(s.starts)-more >= s.span(records)
}

// idle tells whether the oldest zone has no records that are still there, and is not the newest.
func (s *state) idle() bool {
	return len(s.starts) > 1 && s.starts[1] <= s.first
}

// drop takes the oldest zone out of use.
func (s *state) drop() {
	s.spots = s.spots[s.starts[1]-s.starts[0]:]
	s.starts = s.starts[1:]
}

// turnOf is the turn in which a block is put.
func (s *state) turnOf(b frame.Block) int {
	if b.Kind == frame.Head {
		return s.turn
	}
	return s.turn - 1
}

// take goes on behind a block.
func (s *state) take(b frame.Block) {
	switch b.Kind {
	case frame.Head:
		s.first, s.next, s.due = firstOf(b), b.Seq, b.LBA
		if anew(b) {
			s.starts, s.spots = nil, nil
		}
		s.starts = append(s.starts, s.next)
		s.turn++
		s.filled = 0
	case frame.Mark:
		s.first = b.Seq
	default:
		s.spots = append(s.spots, spot{zone: s.zone(s.turn - 1), block: s.filled})
		s.next++
		s.due = b.LBA
	}
	s.filled++
}

// head is the first block of a zone: it tells how the log stands there.
func head(first, next, due int) frame.Block {
	return frame.Block{Kind: frame.Head, Seq: next, LBA: due, Body: bits.Put64(uint64(first))}
}

// firstOf is what a Head tells to be the first record.
func firstOf(head frame.Block) int {
	v, _ := bits.Get64(head.Body)
	return int(v)
}

// anew tells whether the log begins with a Head: its records from the first one on follow.
func anew(head frame.Block) bool { return firstOf(head) == head.Seq }

// record is the next record, and rest is how many of its group follow it.
func (s *state) record(body []byte, rest int) frame.Block {
	return frame.Block{Kind: kindOf(rest), Seq: s.next, LBA: rest, Body: body}
}

func kindOf(rest int) int {
	if rest == 0 {
		return frame.Commit
	}
	return frame.Data
}

// mark removes the records before first.
func mark(first int) frame.Block {
	return frame.Block{Kind: frame.Mark, Seq: first}
}
