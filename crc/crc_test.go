package crc

import (
	"bytes"
	"hash/crc32"
	"math/bits"
	"slices"
	"testing"
)

// dice answers bytes, the same ones at each run.
func dice(seed uint64) func() byte {
	state := seed
	return func() byte {
		state = state*6364136223846793005 + 1442695040888963407
		return byte(state >> 56)
	}
}

func throwBytes(throw func() byte, n int) []byte {
	b := make([]byte, n)
	for i := range b {
		b[i] = throw()
	}
	return b
}

func rising(n int) []byte {
	b := make([]byte, n)
	for i := range b {
		b[i] = byte(i)
	}
	return b
}

func falling(n int) []byte {
	b := rising(n)
	slices.Reverse(b)
	return b
}

// digits are the chapter's example, and its sum.
const (
	digits    = "123456789"
	digitsSum = 0xe3069283
)

// byDivision takes the bytes as one long polynomial, the lowest bit of the first byte in front, and divides it by the chapter's one, as a pupil would on paper. The rest is the register.
func byDivision(b []byte) uint32 {
	var row []byte
	for _, c := range b {
		for k := range 8 {
			row = append(row, c>>k&1)
		}
	}
	row = append(row, make([]byte, 32)...)
	for i := range 32 {
		row[i] ^= 1 // the register of only ones that it starts from
	}
	divisor := []byte{1} // x^32
	for k := range 32 {
		divisor = append(divisor, byte(uint32(0x82f63b78)>>k&1))
	}
	for i := range row[:8*len(b)] {
		if row[i] == 1 {
			for k, d := range divisor {
				row[i+k] ^= d
			}
		}
	}
	var rest uint32
	for k, d := range row[8*len(b):] {
		rest |= uint32(d) << k
	}
	return ^rest
}

// byLibrary is of another hand, for rows that are too long to divide.
func byLibrary(b []byte) uint32 {
	return crc32.Checksum(b, crc32.MakeTable(crc32.Castagnoli))
}

func checkOf(t *testing.T, b []byte, want uint32) {
	t.Helper()
	if got := Of(b); got != want {
		t.Fatalf("Of %d bytes % x = %08x, want %08x", len(b), head(b), got, want)
	}
}

func checkValue(t *testing.T, s *Sum, want uint32) {
	t.Helper()
	if got := s.Value(); got != want {
		t.Fatalf("Value = %08x, want %08x", got, want)
	}
}

// head is as much of a row as a person reads.
func head(b []byte) []byte { return b[:min(len(b), 80)] }

func TestP7_1Known(t *testing.T) {
	for _, c := range []struct {
		b    []byte
		want uint32
	}{
		{[]byte(digits), digitsSum}, // the chapter's example
		{[]byte{}, 0},
		{[]byte{0}, 0x527d5351},
		{[]byte{255}, 0xff000000},
		{[]byte("a"), 0xc1d04330},
		{[]byte("abc"), 0x364b3fb7},
		{make([]byte, 4), 0x48674bc7},
		{bytes.Repeat([]byte{255}, 4), 0xffffffff},
		{make([]byte, 32), 0x8a9136aa}, // this and the next ones: RFC 3720, B.4
		{bytes.Repeat([]byte{255}, 32), 0x62a8ab43},
		{rising(32), 0x46dd794e},
		{falling(32), 0x113fdb5c},
		{[]byte{
			0x01, 0xc0, 0, 0, 0, 0, 0, 0, 0, 0, 0, 0, 0, 0, 0, 0,
			0x14, 0, 0, 0, 0, 0, 0x04, 0, 0, 0, 0, 0x14, 0, 0, 0, 0x18,
			0x28, 0, 0, 0, 0, 0, 0, 0, 0x02, 0, 0, 0, 0, 0, 0, 0,
		}, 0xd9963a56},
	} {
		checkOf(t, c.b, c.want)
		if !Check(c.b, c.want) {
			t.Errorf("Check of % x, %08x is false", c.b, c.want)
		}
	}
}

func TestP7_1NoBytes(t *testing.T) {
	room := []byte(digits)
	for _, b := range [][]byte{nil, {}, room[:0], room[len(room):], room[3:3:3]} {
		checkOf(t, b, 0)
		if !Check(b, 0) {
			t.Error("Check of no bytes, 0 is false")
		}
		for k := range 32 {
			if Check(b, 1<<k) {
				t.Errorf("Check of no bytes, %08x is true", uint32(1)<<k)
			}
		}
		if Check(b, 0xffffffff) {
			t.Error("Check of no bytes, ffffffff is true")
		}
	}
}

// One byte of each value, and two.
func TestP7_1OfShortRows(t *testing.T) {
	seen := map[uint32]int{}
	for i := range 256 {
		b := []byte{byte(i)}
		checkOf(t, b, byDivision(b))
		if k, ok := seen[Of(b)]; ok {
			t.Errorf("%d and %d have the same sum", k, i)
		}
		seen[Of(b)] = i
		for k := range 256 {
			b := []byte{byte(i), byte(k)}
			checkOf(t, b, byLibrary(b))
		}
	}
}

func TestP7_1OfEveryLength(t *testing.T) {
	throw := dice(7)
	for n := range 600 {
		for _, b := range [][]byte{
			make([]byte, n),
			bytes.Repeat([]byte{255}, n),
			bytes.Repeat([]byte{1}, n),
			bytes.Repeat([]byte{128}, n),
			rising(n),
			falling(n),
			throwBytes(throw, n),
		} {
			want := byLibrary(b)
			if n < 100 || n%50 == 0 {
				want = byDivision(b)
			}
			checkOf(t, b, want)
			checkOf(t, append(make([]byte, 1, n+9), b...)[1:], want) // it matters where they stand as little as what room is behind
		}
	}
}

func TestP7_1OfLongRows(t *testing.T) {
	throw := dice(71)
	for _, n := range []int{1 << 12, 1<<16 - 1, 1 << 16, 1<<18 + 3} {
		for _, b := range [][]byte{make([]byte, n), bytes.Repeat([]byte{255}, n), throwBytes(throw, n)} {
			checkOf(t, b, byLibrary(b))
		}
	}
}

// Every row of a few bytes out of these, so that the order of bytes counts.
func TestP7_1OfFewBytes(t *testing.T) {
	few := []byte{0, 1, 2, 127, 128, 170, 254, 255}
	rows := [][]byte{nil}
	for range 4 {
		var longer [][]byte
		for _, b := range rows {
			checkOf(t, b, byDivision(b))
			for _, c := range few {
				longer = append(longer, append(slices.Clip(b), c))
			}
		}
		rows = longer
	}
}

func TestP7_1Check(t *testing.T) {
	throw := dice(72)
	for n := range 100 {
		for _, b := range [][]byte{make([]byte, n), bytes.Repeat([]byte{255}, n), throwBytes(throw, n)} {
			right := byDivision(b)
			if !Check(b, right) {
				t.Fatalf("Check of % x, %08x is false", b, right)
			}
			wrong := []uint32{^right, right + 1, right - 1, -right, bits.Reverse32(right), bits.ReverseBytes32(right), 0, 0xffffffff}
			for k := range 32 {
				wrong = append(wrong, right^1<<k)
			}
			for _, sum := range wrong {
				if sum != right && Check(b, sum) {
					t.Fatalf("Check of % x, %08x is true", b, sum)
				}
			}
		}
	}
}

// A row whose sum is 0 although it has bytes: 0 is no number apart.
func TestP7_1CheckOfZero(t *testing.T) {
	b := []byte{255, 255, 255, 255} // the register comes out as 0 behind them, and as 0 behind each zero byte
	for range 10 {
		checkOf(t, b, 0xffffffff)
		if Check(b, 0) || !Check(b, 0xffffffff) {
			t.Errorf("Check of % x goes wrong", b)
		}
		b = append(b, 0)
	}
	zero := withSumZero(t, []byte(digits))
	if Of(zero) != 0 || !Check(zero, 0) || Check(zero, 1) {
		t.Errorf("Of % x = %08x, want 0", zero, Of(zero))
	}
}

// withSumZero adds the four bytes behind which the sum is 0: as each of 32 bits turns its own part of the sum, they are found by elimination.
func withSumZero(t *testing.T, b []byte) []byte {
	t.Helper()
	base := append(slices.Clip(b), 0, 0, 0, 0)
	var turned, by [32]uint32 // what a set of bits turns in the sum, by its highest bit; which set
	for i := range 32 {
		x := slices.Clone(base)
		x[len(b)+i/8] ^= 1 << (i % 8)
		effect, set := byDivision(x)^byDivision(base), uint32(1)<<i
		for effect != 0 {
			top := bits.Len32(effect) - 1
			if turned[top] == 0 {
				turned[top], by[top] = effect, set
				break
			}
			effect ^= turned[top]
			set ^= by[top]
		}
	}
	need, set := byDivision(base), uint32(0)
	for need != 0 {
		top := bits.Len32(need) - 1
		if turned[top] == 0 {
			t.Fatal("no four bytes bring the sum to 0")
		}
		need ^= turned[top]
		set ^= by[top]
	}
	for i := range 4 {
		base[len(b)+i] = byte(set >> (8 * i))
	}
	return base
}

func TestP7_2NewAndZero(t *testing.T) {
	var zero Sum
	for _, s := range []*Sum{New(), new(Sum), {}, &zero} {
		checkValue(t, s, 0)
		checkValue(t, s, 0)
		if r := s.Add(); r != s {
			t.Error("Add of nothing doesn't return its Sum")
		}
		checkValue(t, s, 0)
		if r := s.Add([]byte(digits)...); r != s {
			t.Error("Add doesn't return its Sum")
		}
		checkValue(t, s, digitsSum)
	}
	if New() == New() {
		t.Error("New returns one Sum twice")
	}
}

// A new Sum has no bytes, whatever others were given.
func TestP7_2NewAfterOthers(t *testing.T) {
	for range 3 {
		checkValue(t, New(), 0)
		checkValue(t, New().Add(1, 2, 3), byDivision([]byte{1, 2, 3}))
		checkOf(t, []byte(digits), digitsSum)
	}
}

func TestP7_2Example(t *testing.T) {
	s := New()
	s.Add([]byte("123")...)
	s.Add([]byte("456789")...)
	checkValue(t, s, digitsSum)
	checkValue(t, New().Add([]byte("123")...).Add([]byte("456789")...), digitsSum)
	checkValue(t, New().Add('1', '2', '3').Add('4', '5').Add('6', '7', '8', '9'), digitsSum)
}

func TestP7_2Nil(t *testing.T) {
	var none *Sum
	for _, b := range [][]byte{nil, {}, {0}, {1}, []byte(digits), make([]byte, 64)} {
		if none.Add(b...) != nil {
			t.Errorf("Add of % x to a nil Sum is not nil", b)
		}
		checkValue(t, none, 0)
	}
	if none.Add() != nil || none.Add().Add(1).Add(2, 3) != nil {
		t.Error("Add to a nil Sum is not nil")
	}
	checkValue(t, none.Add(1), 0)
	checkValue(t, New(), 0)
}

// The Value of each moment: asked for between the calls, twice, and it changes nothing.
func TestP7_2ValueBetween(t *testing.T) {
	b := throwBytes(dice(73), 200)
	s := New()
	for i, c := range b {
		want := byDivision(b[:i])
		checkValue(t, s, want)
		checkValue(t, s, want)
		if r := s.Add(c); r != s {
			t.Fatal("Add doesn't return its Sum")
		}
	}
	checkValue(t, s, byDivision(b))
}

// Add of no bytes, of each kind, between others and at both ends.
func TestP7_2AddOfNothing(t *testing.T) {
	b := []byte(digits)
	s := New()
	for i, c := range b {
		for _, nothing := range [][]byte{nil, {}, b[:0], b[i:i]} {
			if r := s.Add(nothing...); r != s {
				t.Fatal("Add of nothing doesn't return its Sum")
			}
			checkValue(t, s, byDivision(b[:i]))
		}
		s.Add().Add(c).Add()
	}
	checkValue(t, s.Add(), digitsSum)
}

func TestP7_2SumsInTurns(t *testing.T) {
	throw := dice(74)
	a, b := throwBytes(throw, 150), throwBytes(throw, 150)
	s, r, idle := New(), &Sum{}, New()
	for i := range a {
		s.Add(a[i])
		r.Add(b[i], byte(i))
		checkValue(t, s, byLibrary(a[:i+1]))
		checkValue(t, idle, 0)
	}
	var pairs []byte
	for i, c := range b {
		pairs = append(pairs, c, byte(i))
	}
	checkValue(t, s, byLibrary(a))
	checkValue(t, r, byLibrary(pairs))
	checkValue(t, idle, 0)
}

// The same row in every division into pieces, with and without empty ones at the seams.
func TestP7_3EveryDivision(t *testing.T) {
	for _, b := range [][]byte{[]byte(digits), make([]byte, 9), bytes.Repeat([]byte{255}, 9), throwBytes(dice(75), 12)} {
		want := byDivision(b)
		for cuts := range 1 << (len(b) - 1) {
			s, seams, from := New(), New(), 0
			for i := 1; i < len(b); i++ {
				if cuts>>(i-1)&1 == 1 {
					s = s.Add(b[from:i]...)
					seams = seams.Add(b[from:i]...).Add()
					from = i
				}
			}
			checkValue(t, s.Add(b[from:]...), want)
			checkValue(t, seams.Add(b[from:]...), want)
		}
	}
}

func TestP7_3LongDivisions(t *testing.T) {
	throw := dice(76)
	b := throwBytes(throw, 700)
	want := byDivision(b)
	checkOf(t, b, want)
	checkValue(t, New().Add(b...), want)
	for i := range b {
		checkValue(t, New().Add(b[:i]...).Add(b[i:]...), want)
	}
	for size := 1; size <= len(b)+1; size++ {
		s := New()
		for piece := range slices.Chunk(b, size) {
			s.Add(piece...)
		}
		checkValue(t, s, want)
	}
	for range 500 {
		s, from := New(), 0
		for from < len(b) {
			to := min(from+int(throw())%40, len(b))
			s.Add(b[from:to]...)
			from = to
		}
		checkValue(t, s, want)
	}
}

func TestP7_3OneBitInverted(t *testing.T) {
	throw := dice(77)
	for _, b := range [][]byte{
		{0}, {255}, []byte(digits), make([]byte, 60), bytes.Repeat([]byte{255}, 60),
		rising(256), make([]byte, 500), throwBytes(throw, 500),
	} {
		right := Of(b)
		for i := range b {
			for k := range 8 {
				b[i] ^= 1 << k
				if got := Of(b); got == right || got != byLibrary(b) {
					t.Fatalf("bit %d of byte %d of %d inverted: Of = %08x, without that %08x", k, i, len(b), got, right)
				}
				if Check(b, right) {
					t.Fatalf("bit %d of byte %d of %d inverted: Check is true", k, i, len(b))
				}
				b[i] ^= 1 << k
			}
		}
	}
}

// Neither the bytes nor the room in front of them and behind them is turned.
func TestP7_3ArgumentsStay(t *testing.T) {
	all := throwBytes(dice(78), 40)
	before := slices.Clone(all)
	s := New()
	for i := range all {
		for k := i; k <= len(all); k++ {
			b := all[i:k]
			Of(b)
			Check(b, Of(b))
			Check(b, 0)
			s.Add(b...)
			s.Value()
		}
	}
	if !bytes.Equal(all, before) {
		t.Errorf("% x was turned to % x", before, all)
	}
}

func TestP7_3ArgumentsAreNotKept(t *testing.T) {
	b := []byte(digits)
	s := New().Add(b...)
	clear(b)
	checkValue(t, s, digitsSum)
	copy(b, "abc")
	checkValue(t, s, digitsSum)
	checkValue(t, s.Add(b[:3]...), byDivision([]byte(digits+"abc")))
	checkOf(t, b[:3], 0x364b3fb7)
	copy(b, digits)
	checkValue(t, s, byDivision([]byte(digits+"abc")))
	checkOf(t, b, digitsSum)
	if !Check(b, digitsSum) {
		t.Error("Check of the example is false")
	}
	b[0]++
	if Check(b, digitsSum) {
		t.Error("Check of a changed example is true")
	}
}
