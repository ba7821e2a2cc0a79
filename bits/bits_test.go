package bits

import (
	"bytes"
	"encoding/binary"
	"math"
	"math/big"
	"slices"
	"testing"
)

// dice answers numbers, the same ones at each run.
func dice(seed uint64) func() uint64 {
	state := seed
	return func() uint64 {
		state = state*6364136223846793005 + 1442695040888963407
		x := state ^ state>>31
		return x * 0x9e3779b97f4a7c15
	}
}

// numbers are the edges, each power of two with its neighbours, and numbers of every length.
func numbers() []uint64 {
	out := []uint64{0, 1, 127, 128, 300, 16383, 16384, math.MaxUint32, math.MaxUint64, 0x04030201, 0x0807060504030201}
	for i := range 64 {
		out = append(out, 1<<i-1, 1<<i, 1<<i+1)
	}
	throw := dice(6)
	for i := range 64 {
		for range 50 {
			out = append(out, throw()>>i)
		}
	}
	return out
}

// varintByWords divides an exact number by 128 until nothing is left.
func varintByWords(v uint64) []byte {
	var out []byte
	left, group := new(big.Int).SetUint64(v), new(big.Int)
	for {
		left.DivMod(left, big.NewInt(128), group)
		if left.Sign() == 0 {
			return append(out, byte(group.Int64()))
		}
		out = append(out, byte(group.Int64()+128))
	}
}

// unvarintByWords takes the bytes up to the first one below 128 and adds their groups up exactly.
func unvarintByWords(b []byte) (uint64, int) {
	end := slices.IndexFunc(b, func(c byte) bool { return c < 128 })
	n := end + 1
	switch {
	case end < 0, n > 10, n == 10 && b[9] > 1, n > 1 && b[end] == 0:
		return 0, 0
	}
	sum := new(big.Int)
	for i := end; i >= 0; i-- {
		sum.Mul(sum, big.NewInt(128))
		sum.Add(sum, big.NewInt(int64(b[i]%128)))
	}
	return sum.Uint64(), n
}

func checkUnvarint(t *testing.T, b []byte, want uint64, wantN int) {
	t.Helper()
	if v, n := Unvarint(b); v != want || n != wantN {
		t.Fatalf("Unvarint of % x = %d, %d, want %d, %d", b, v, n, want, wantN)
	}
}

func checkRefused(t *testing.T, b []byte) {
	t.Helper()
	checkUnvarint(t, b, 0, 0)
}

// join is new memory, without room behind it.
func join(parts ...[]byte) []byte {
	return slices.Clip(slices.Concat(parts...))
}

// behind are bytes that may follow an encoding.
func behind() [][]byte {
	return [][]byte{nil, {0}, {1}, {7}, {127}, {128}, {255}, {0, 0}, {128, 0}, {128, 1}, bytes.Repeat([]byte{255}, 20), make([]byte, 20)}
}

// ways are the bytes that can make a difference.
var ways = [...]byte{0, 1, 2, 3, 63, 64, 126, 127, 128, 129, 130, 192, 254, 255}

func TestP6_1VarintKnown(t *testing.T) {
	for _, c := range []struct {
		v    uint64
		want []byte
	}{
		{300, []byte{0xac, 0x02}}, // the chapter's example
		{0, []byte{0}},
		{1, []byte{1}},
		{2, []byte{2}},
		{127, []byte{127}},
		{128, []byte{128, 1}},
		{129, []byte{129, 1}},
		{255, []byte{255, 1}},
		{256, []byte{128, 2}},
		{16383, []byte{255, 127}},
		{16384, []byte{128, 128, 1}},
		{1<<21 - 1, []byte{255, 255, 127}},
		{1 << 21, []byte{128, 128, 128, 1}},
		{0x1030101, []byte{0x81, 0x82, 0x8c, 0x08}},
		{1<<63 - 1, []byte{255, 255, 255, 255, 255, 255, 255, 255, 127}},
		{1 << 63, []byte{128, 128, 128, 128, 128, 128, 128, 128, 128, 1}},
		{1<<64 - 1, []byte{255, 255, 255, 255, 255, 255, 255, 255, 255, 1}},
	} {
		if got := Varint(c.v); !bytes.Equal(got, c.want) {
			t.Errorf("Varint of %d = % x, want % x", c.v, got, c.want)
		}
	}
}

func TestP6_1VarintByWords(t *testing.T) {
	check := func(v uint64) {
		if got, want := Varint(v), varintByWords(v); !bytes.Equal(got, want) {
			t.Fatalf("Varint of %d = % x, want % x", v, got, want)
		}
	}
	for v := range uint64(40_000) {
		check(v)
	}
	for _, v := range numbers() {
		check(v)
		if got, want := Varint(v), binary.AppendUvarint(nil, v); !bytes.Equal(got, want) {
			t.Fatalf("Varint of %d = % x, want % x", v, got, want)
		}
	}
}

func TestP6_1VarintLengths(t *testing.T) {
	for groups := range 10 {
		first, last := uint64(1)<<(7*groups), uint64(math.MaxUint64)
		if groups == 0 {
			first = 0
		}
		if groups < 9 {
			last = 1<<(7*groups+7) - 1
		}
		for _, v := range []uint64{first, last} {
			if got := len(Varint(v)); got != groups+1 {
				t.Errorf("Varint of %d has %d bytes, want %d", v, got, groups+1)
			}
		}
	}
}

func TestP6_1UnvarintKnown(t *testing.T) {
	for _, c := range []struct {
		b    []byte
		want uint64
		n    int
	}{
		{[]byte{0}, 0, 1}, // its last byte is its first one
		{[]byte{0, 0}, 0, 1},
		{[]byte{0, 128}, 0, 1},
		{[]byte{1}, 1, 1},
		{[]byte{127}, 127, 1},
		{[]byte{127, 127}, 127, 1},
		{[]byte{128, 1}, 128, 2},
		{[]byte{0xac, 0x02}, 300, 2},
		{[]byte{0xac, 0x02, 0x80}, 300, 2},
		{[]byte{255, 127}, 16383, 2},
		{[]byte{128, 128, 1}, 16384, 3},
		{[]byte{128, 128, 1, 0}, 16384, 3},
		{[]byte{255, 255, 255, 255, 255, 255, 255, 255, 127}, 1<<63 - 1, 9},
		{[]byte{255, 255, 255, 255, 255, 255, 255, 255, 127, 2}, 1<<63 - 1, 9},
		{[]byte{128, 128, 128, 128, 128, 128, 128, 128, 128, 1}, 1 << 63, 10},
		{[]byte{255, 255, 255, 255, 255, 255, 255, 255, 255, 1}, 1<<64 - 1, 10},
		{[]byte{255, 255, 255, 255, 255, 255, 255, 255, 255, 1, 1}, 1<<64 - 1, 10},
	} {
		checkUnvarint(t, c.b, c.want, c.n)
	}
}

func TestP6_1UnvarintRefusesNoBytes(t *testing.T) {
	checkRefused(t, nil)
	checkRefused(t, []byte{})
	checkRefused(t, []byte{1, 2, 3}[:0])
	checkRefused(t, []byte{1, 2, 3}[3:])
}

// What stands in the room behind a cut encoding is no part of it, even if it would go on there.
func TestP6_1UnvarintRefusesCuts(t *testing.T) {
	for _, v := range numbers() {
		b := Varint(v)
		for i := range b {
			checkRefused(t, b[:i])
			checkRefused(t, join(b[:i]))
		}
	}
}

func TestP6_1UnvarintRefusesTooLong(t *testing.T) {
	for _, c := range []byte{128, 129, 255} {
		for n := range 40 {
			b := bytes.Repeat([]byte{c}, n)
			checkRefused(t, b)
			if n < 10 {
				continue
			}
			for end := range 256 {
				checkRefused(t, join(b, []byte{byte(end)}))
				checkRefused(t, join(b, []byte{byte(end), 1, 0}))
			}
		}
		checkRefused(t, bytes.Repeat([]byte{c}, 1<<16))
	}
}

func TestP6_1UnvarintTenthByte(t *testing.T) {
	for _, c := range []byte{128, 129, 0xd5, 255} {
		nine := bytes.Repeat([]byte{c}, 9)
		for tenth := range 256 {
			for _, rest := range behind() {
				b := join(nine, []byte{byte(tenth)}, rest)
				if tenth != 1 {
					checkRefused(t, b)
					continue
				}
				v, n := unvarintByWords(b)
				if v < 1<<63 || n != 10 {
					t.Fatalf("% x by words is %d, %d", b, v, n)
				}
				checkUnvarint(t, b, v, n)
			}
		}
	}
}

func TestP6_1UnvarintRefusesLastZero(t *testing.T) {
	checkRefused(t, []byte{128, 0}) // the chapter's example
	for _, c := range []byte{128, 129, 172, 255} {
		for n := 1; n < 12; n++ {
			for _, rest := range behind() {
				checkRefused(t, join(bytes.Repeat([]byte{c}, n), []byte{0}, rest))
			}
		}
	}
	for _, v := range numbers() { // a number with one group too many
		b := Varint(v)
		b[len(b)-1] |= 128
		checkRefused(t, append(b, 0))
	}
}

func TestP6_1UnvarintOfShortBytes(t *testing.T) {
	check := func(b ...byte) {
		v, n := unvarintByWords(b)
		checkUnvarint(t, b, v, n)
	}
	for i := range 256 {
		check(byte(i))
		for k := range 256 {
			check(byte(i), byte(k))
			for _, c := range ways {
				check(byte(i), byte(k), c)
			}
		}
	}
	for _, a := range ways {
		for _, b := range ways {
			for _, c := range ways {
				for _, d := range ways {
					check(a, b, c, d)
				}
			}
		}
	}
}

// Bytes of which most have a follower, so that every length comes up.
func TestP6_1UnvarintOfManyBytes(t *testing.T) {
	throw := dice(61)
	lengths := [11]int{}
	for range 200_000 {
		b := make([]byte, throw()>>32%14)
		for i := range b {
			b[i] = byte(throw()>>40) | 128
			switch throw() >> 32 % 12 {
			case 0:
				b[i] &= 127
			case 1:
				b[i] = ways[throw()>>32%uint64(len(ways))]
			}
		}
		v, n := unvarintByWords(b)
		checkUnvarint(t, b, v, n)
		lengths[n]++
	}
	for n, count := range lengths {
		if count == 0 {
			t.Errorf("no encoding of %d bytes came up", n)
		}
	}
}

func TestP6_2PutKnown(t *testing.T) {
	for _, c := range []struct {
		v    uint32
		want []byte
	}{
		{0x04030201, []byte{1, 2, 3, 4}}, // the chapter's example
		{0, []byte{0, 0, 0, 0}},
		{1, []byte{1, 0, 0, 0}},
		{256, []byte{0, 1, 0, 0}},
		{0x80000000, []byte{0, 0, 0, 128}},
		{0xdeadbeef, []byte{0xef, 0xbe, 0xad, 0xde}},
		{math.MaxUint32, []byte{255, 255, 255, 255}},
	} {
		if got := Put32(c.v); !bytes.Equal(got, c.want) {
			t.Errorf("Put32 of %x = % x, want % x", c.v, got, c.want)
		}
	}
	for _, c := range []struct {
		v    uint64
		want []byte
	}{
		{0x0807060504030201, []byte{1, 2, 3, 4, 5, 6, 7, 8}},
		{0, []byte{0, 0, 0, 0, 0, 0, 0, 0}},
		{1, []byte{1, 0, 0, 0, 0, 0, 0, 0}},
		{1 << 32, []byte{0, 0, 0, 0, 1, 0, 0, 0}},
		{1 << 63, []byte{0, 0, 0, 0, 0, 0, 0, 128}},
		{0xfedcba9876543210, []byte{0x10, 0x32, 0x54, 0x76, 0x98, 0xba, 0xdc, 0xfe}},
		{math.MaxUint64, []byte{255, 255, 255, 255, 255, 255, 255, 255}},
	} {
		if got := Put64(c.v); !bytes.Equal(got, c.want) {
			t.Errorf("Put64 of %x = % x, want % x", c.v, got, c.want)
		}
	}
}

func TestP6_2PutByWords(t *testing.T) {
	for _, v := range numbers() {
		for _, w := range []uint32{uint32(v), uint32(v >> 32)} {
			if got, want := Put32(w), binary.LittleEndian.AppendUint32(nil, w); !bytes.Equal(got, want) {
				t.Fatalf("Put32 of %x = % x, want % x", w, got, want)
			}
		}
		if got, want := Put64(v), binary.LittleEndian.AppendUint64(nil, v); !bytes.Equal(got, want) {
			t.Fatalf("Put64 of %x = % x, want % x", v, got, want)
		}
	}
}

func checkGet32(t *testing.T, b []byte, want uint32, wantOk bool) {
	t.Helper()
	if v, ok := Get32(b); v != want || ok != wantOk {
		t.Fatalf("Get32 of % x = %x, %v, want %x, %v", b, v, ok, want, wantOk)
	}
}

func checkGet64(t *testing.T, b []byte, want uint64, wantOk bool) {
	t.Helper()
	if v, ok := Get64(b); v != want || ok != wantOk {
		t.Fatalf("Get64 of % x = %x, %v, want %x, %v", b, v, ok, want, wantOk)
	}
}

func TestP6_2GetKnown(t *testing.T) {
	b := []byte{1, 2, 3, 4, 5, 6, 7, 8, 9}
	checkGet32(t, b[:3:3], 0, false)
	checkGet32(t, b[:4:4], 0x04030201, true)
	checkGet32(t, b[:5:5], 0x04030201, true)
	checkGet32(t, b[5:], 0x09080706, true)
	checkGet64(t, b[:7:7], 0, false) // the chapter's example
	checkGet64(t, b[:8:8], 0x0807060504030201, true)
	checkGet64(t, b[:9:9], 0x0807060504030201, true)
	checkGet64(t, b[1:], 0x0908070605040302, true)
}

// Every byte stands at each place, so that none is left out or taken as a signed one.
func TestP6_2GetByWords(t *testing.T) {
	for c := range 256 {
		for place := range 8 {
			for _, rest := range []byte{0, 1, 255} {
				b := bytes.Repeat([]byte{rest}, 8)
				b[place] = byte(c)
				checkGet32(t, b[:4:4], binary.LittleEndian.Uint32(b), true)
				checkGet32(t, b, binary.LittleEndian.Uint32(b), true)
				checkGet64(t, b, binary.LittleEndian.Uint64(b), true)
			}
		}
	}
}

// Fewer bytes are refused, whatever they are and whatever stands in the room behind them.
func TestP6_2GetRefuses(t *testing.T) {
	checkGet32(t, nil, 0, false)
	checkGet64(t, nil, 0, false)
	for _, c := range []byte{0, 1, 128, 255} {
		b := bytes.Repeat([]byte{c}, 20)
		for n := range 8 {
			checkGet64(t, b[:n], 0, false)
			checkGet64(t, b[:n:n], 0, false)
			checkGet64(t, b[20-n:], 0, false)
			if n < 4 {
				checkGet32(t, b[:n], 0, false)
				checkGet32(t, b[:n:n], 0, false)
				checkGet32(t, b[20-n:], 0, false)
			}
		}
	}
}

func TestP6_3DecodingReturnsTheNumber(t *testing.T) {
	for _, v := range numbers() {
		for _, rest := range behind() {
			b := Varint(v)
			checkUnvarint(t, join(b, rest), v, len(b))
			checkGet64(t, join(Put64(v), rest), v, true)
			checkGet32(t, join(Put32(uint32(v)), rest), uint32(v), true)
			checkGet32(t, join(Put32(uint32(v>>32)), rest), uint32(v>>32), true)
		}
	}
}

// One number has one encoding: what is decoded is encoded to the same bytes.
func TestP6_3OneEncoding(t *testing.T) {
	throw := dice(63)
	for range 50_000 {
		b := binary.LittleEndian.AppendUint64(nil, throw())
		if v, n := Unvarint(b); n > 0 && !bytes.Equal(Varint(v), b[:n]) {
			t.Fatalf("% x is decoded to %d, which is encoded to % x", b[:n], v, Varint(v))
		}
		v, _ := Get64(b)
		w, _ := Get32(b)
		if !bytes.Equal(Put64(v), b) || !bytes.Equal(Put32(w), b[:4]) {
			t.Fatalf("% x is decoded to %x and %x, which are encoded to % x and % x", b, v, w, Put64(v), Put32(w))
		}
	}
}

func TestP6_3ArgumentsStay(t *testing.T) {
	for _, v := range numbers() {
		all := join(Varint(v), Put64(v), []byte{128, 0, 255, 1}, bytes.Repeat([]byte{255}, 12))
		before := join(all)
		for i := range all {
			for _, k := range []int{i, min(i+4, len(all)), min(i+8, len(all)), len(all)} {
				b := all[i:k]
				Unvarint(b)
				Get32(b)
				Get64(b)
			}
		}
		if !bytes.Equal(all, before) {
			t.Fatalf("% x was turned to % x", before, all)
		}
	}
}

func TestP6_3ArgumentsAreNotKept(t *testing.T) {
	b := join(Varint(300), make([]byte, 8))
	checkUnvarint(t, b, 300, 2)
	copy(b, Put64(0x0807060504030201))
	checkUnvarint(t, b, 1, 1)
	checkGet32(t, b, 0x04030201, true)
	checkGet64(t, b, 0x0807060504030201, true)
	clear(b)
	checkUnvarint(t, b, 0, 1)
	checkGet32(t, b, 0, true)
	checkGet64(t, b, 0, true)
}

// A result is neither written to by a later call nor shares room with one.
func TestP6_3ResultsAreNew(t *testing.T) {
	for _, v := range numbers() {
		for k, call := range []func() []byte{
			func() []byte { return Varint(v) },
			func() []byte { return Put64(v) },
			func() []byte { return Put32(uint32(v)) },
		} {
			first, second := call(), call()
			want := join(first)
			first = first[:cap(first)]
			for i := range first {
				first[i] ^= 0x5a
			}
			if !bytes.Equal(second, want) || !bytes.Equal(call(), want) {
				t.Fatalf("call %d of %d: a change of one result was seen in another", k, v)
			}
		}
	}
}
