package seglog

import (
	"scarp/api"
	"scarp/frame"
	"scarp/zdev"
)

// maxCount is more than there can be of records, and of rounds through the zones: each of them takes something that is passed to the program.
const maxCount = 1 << 31

const firstBytes = 8 // of a Head's Body

// scan goes through the blocks of a log's zones and tells whether this package can have left them.
type scan struct {
	state        // behind the last block that was gone through
	sound  state // the log as it was when nothing of it was incomplete
	found  bool  // whether there was such a state
	oldest int   // the first turn whose zone has blocks
	end    int   // the turn behind the last one
}

// run goes through all blocks, from the oldest zone on.
func (c *scan) run(d *zdev.Dev) bool {
	if !c.bound(d) {
		return false
	}
	// Ahead of turn 0 the log was empty; how it stood ahead of another turn, only the Head tells.
	c.sound, c.found = c.state, c.oldest == 0
	c.turn = c.oldest
	turn := c.oldest
zones:
	for ; turn < c.end; turn++ {
		blocks, _ := d.Pointer(c.zone(turn))
		if blocks == 0 {
			break zones
		}
		for at := range blocks {
			b, whole, e := look(d, c.zone(turn), at)
			if e != api.OK || !c.may(b, turn) || !whole && at < blocks-1 {
				break zones
			}
			if whole {
				c.pass(b)
			}
		}
	}
	return turn == c.end && c.found && c.sound.complete()
}

// bound finds the turns of the zones that have blocks, by the first block of each: it tells the turn.
func (c *scan) bound(d *zdev.Dev) bool {
	used := 0
zones:
	for k := range c.zones {
		b, _, e := look(d, c.low+k, 0)
		switch {
		case e == api.ErrNone:
			continue zones
		case e != api.OK || b.Epoch >= maxCount:
			return false
		}
		turn := b.Epoch*c.zones + k
		if used == 0 || turn < c.oldest {
			c.oldest = turn
		}
		used++
	}
	c.end = c.oldest + used
	return true
}

// look reads a block, or what was to be written there if a crash has torn it.
func look(d *zdev.Dev, zone, at int) (b frame.Block, whole bool, e api.Errno) {
	p, e := d.Read(zone, at)
	if e != api.OK {
		return frame.Block{}, false, e
	}
	if b, e := frame.Decode(p); e == api.OK {
		return b, true, api.OK
	}
	b, e = frame.Decode(zdev.Tear(p))
	return b, false, e
}

// pass goes on behind a block.
func (c *scan) pass(b frame.Block) {
	c.take(b)
	if c.due == 0 {
		c.sound, c.found = c.state, true
	}
}

// may tells whether a block can be the next one, in the zone of this turn.
func (c *scan) may(b frame.Block, turn int) bool {
	switch {
	case turn != c.turnOf(b), b.Epoch != c.epoch(turn):
		return false
	case b.Kind == frame.Head:
		return c.mayBegin(b)
	case b.Kind == frame.Mark:
		return c.mayMark(b)
	}
	return c.mayAdd(b)
}

// mayBegin tells whether a Head can be the next block.
func (c *scan) mayBegin(b frame.Block) bool {
	first, next, due := firstOf(b), b.Seq, b.LBA
	switch {
	case len(b.Body) != firstBytes, first < 0, first > next, next > maxCount:
		return false
	case !c.found && c.turn == c.oldest:
		return c.holds(next + due - first)
	case anew(b):
		s := &c.sound
		return s.turn == c.turn && s.rests(c.oldest) && first >= s.first && next+due == s.next
	}
	goesOn := c.filled == c.size && first == c.first && next == c.next && due == c.due
	return goesOn && (due > 0 || c.rests(c.oldest) && c.fits(1, c.live()))
}

// mayMark tells whether a Mark can be the next block.
func (c *scan) mayMark(b frame.Block) bool {
	return c.rests(c.oldest) && b.Seq > c.first && b.Seq <= c.next && b.LBA == 0 && len(b.Body) == 0
}

// mayAdd tells whether a record can be the next block.
func (c *scan) mayAdd(b frame.Block) bool {
	switch {
	case b.Seq != c.next, b.Kind != kindOf(b.LBA):
		return false
	case c.due > 0:
		return b.LBA == c.due-1
	}
	group := b.LBA + 1
	return c.rests(c.oldest) && group <= maxGroup && c.fits(group, c.live()+group)
}

// rests tells whether nothing is left to do before the next group, mark or rewriting: no group is open, and all zones that could be freed are, of those from turn oldest on.
func (s *state) rests(oldest int) bool {
	return s.due == 0 && s.oldest() == oldest && !s.idle()
}

// complete tells whether no record that is there stood in a zone that was freed.
func (s *state) complete() bool {
	return len(s.starts) == 0 || s.first >= s.starts[0]
}
