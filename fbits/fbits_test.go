package fbits

import (
	"bytes"
	"math"
	"testing"

	"scarp/api"
)

// nan is written out again here, so that a slip in the package's constants can't hide.
const nan = 0x7ff8000000000000

// edge is a number by its bits, with what is known of it.
type edge struct {
	name       string
	bits       uint64
	class      int
	prev, next uint64
}

// edges are in ascending order of their keys.
var edges = []edge{
	{"-Inf", 0xfff0000000000000, api.NegInf, 0xfff0000000000000, 0xffefffffffffffff},
	{"smallest finite", 0xffefffffffffffff, api.Neg, 0xfff0000000000000, 0xffeffffffffffffe},
	{"-2", 0xc000000000000000, api.Neg, 0xc000000000000001, 0xbfffffffffffffff},
	{"-1", 0xbff0000000000000, api.Neg, 0xbff0000000000001, 0xbfefffffffffffff},
	{"greatest negative normal", 0x8010000000000000, api.Neg, 0x8010000000000001, 0x800fffffffffffff},
	{"smallest negative subnormal", 0x800fffffffffffff, api.NegSub, 0x8010000000000000, 0x800ffffffffffffe},
	{"middle negative subnormal", 0x8008000000000000, api.NegSub, 0x8008000000000001, 0x8007ffffffffffff},
	{"greatest negative subnormal", 0x8000000000000001, api.NegSub, 0x8000000000000002, 0x8000000000000000},
	{"-0", 0x8000000000000000, api.NegZero, 0x8000000000000001, 0x0000000000000001},
	{"0", 0x0000000000000000, api.PosZero, 0x8000000000000001, 0x0000000000000001},
	{"smallest positive subnormal", 0x0000000000000001, api.PosSub, 0x0000000000000000, 0x0000000000000002},
	{"middle positive subnormal", 0x0008000000000000, api.PosSub, 0x0007ffffffffffff, 0x0008000000000001},
	{"greatest positive subnormal", 0x000fffffffffffff, api.PosSub, 0x000ffffffffffffe, 0x0010000000000000},
	{"smallest positive normal", 0x0010000000000000, api.Pos, 0x000fffffffffffff, 0x0010000000000001},
	{"1", 0x3ff0000000000000, api.Pos, 0x3fefffffffffffff, 0x3ff0000000000001},
	{"2", 0x4000000000000000, api.Pos, 0x3fffffffffffffff, 0x4000000000000001},
	{"greatest finite", 0x7fefffffffffffff, api.Pos, 0x7feffffffffffffe, 0x7ff0000000000000},
	{"Inf", 0x7ff0000000000000, api.PosInf, 0x7fefffffffffffff, 0x7ff0000000000000},
	{"the NaN", nan, api.NaN, nan, nan},
}

// otherNaNs are bit patterns of NaNs that are not the NaN: signalling and quiet, of both signs, with little and much set.
var otherNaNs = []uint64{
	0x7ff0000000000001,
	0x7ff0000000000100,
	0x7ff4000000000000,
	0x7ff7ffffffffffff,
	0x7ff8000000000001,
	0x7ff8000100000000,
	0x7fffffffffffffff,
	0xfff0000000000001,
	0xfff7ffffffffffff,
	0xfff8000000000000,
	0xfff8000000000001,
	0xffffffffffffffff,
}

// walk calls f with patterns of every sign and exponent that are no NaN's.
func walk(f func(b uint64)) {
	fracs := []uint64{0, 1, 2, 0x00000ffffffff, 0x5555555555555, 1 << 51, 1<<52 - 2, 1<<52 - 1}
	for sign := uint64(0); sign < 2; sign++ {
		for exp := uint64(0); exp < 2048; exp++ {
			for _, frac := range fracs {
				if exp < 2047 || frac == 0 {
					f(sign<<63 | exp<<52 | frac)
				}
			}
		}
	}
}

// number builds one without the package.
func number(b uint64) float64 { return math.Float64frombits(b) }

// pattern looks at one without the package.
func pattern(x float64) uint64 { return math.Float64bits(x) }

func TestP1_1Class(t *testing.T) {
	for _, e := range edges {
		if got := Class(number(e.bits)); got != e.class {
			t.Errorf("Class(%s) is %d, want %d", e.name, got, e.class)
		}
	}
	for _, b := range otherNaNs {
		if got := Class(number(b)); got != api.NaN {
			t.Errorf("Class(%x) is %d, want api.NaN", b, got)
		}
	}
}

// classByValue tells a class by comparisons alone.
func classByValue(x float64) int {
	const normal = 0x1p-1022
	switch {
	case math.IsNaN(x):
		return api.NaN
	case math.IsInf(x, -1):
		return api.NegInf
	case math.IsInf(x, 1):
		return api.PosInf
	case x <= -normal:
		return api.Neg
	case x >= normal:
		return api.Pos
	case x < 0:
		return api.NegSub
	case x > 0:
		return api.PosSub
	case math.Signbit(x):
		return api.NegZero
	}
	return api.PosZero
}

func TestP1_1ClassOfEveryExponent(t *testing.T) {
	walk(func(b uint64) {
		x := number(b)
		if got, want := Class(x), classByValue(x); got != want {
			t.Errorf("Class(%x) is %d, want %d", b, got, want)
		}
	})
}

func TestP1_1Same(t *testing.T) {
	for i, a := range edges {
		for k, b := range edges {
			if got := Same(number(a.bits), number(b.bits)); got != (i == k) {
				t.Errorf("Same(%s, %s) is %v", a.name, b.name, got)
			}
		}
	}
	for _, a := range otherNaNs {
		for _, b := range append([]uint64{nan}, otherNaNs...) {
			if !Same(number(a), number(b)) || !Same(number(b), number(a)) {
				t.Errorf("Same(%x, %x) is false: both are NaN", a, b)
			}
		}
		for _, e := range edges[:len(edges)-1] {
			if Same(number(a), number(e.bits)) || Same(number(e.bits), number(a)) {
				t.Errorf("Same(%x, %s) is true: one is NaN", a, e.name)
			}
		}
	}
}

func TestP1_2Bits(t *testing.T) {
	if got := Bits(1); got != 0x3ff0000000000000 {
		t.Errorf("Bits(1) is %x", got)
	}
	for _, e := range edges {
		if got := Bits(number(e.bits)); got != e.bits {
			t.Errorf("Bits(%s) is %x, want %x", e.name, got, e.bits)
		}
	}
	for _, b := range otherNaNs {
		if got := Bits(number(b)); got != nan {
			t.Errorf("Bits of NaN %x is %x", b, got)
		}
	}
	walk(func(b uint64) {
		if got := Bits(number(b)); got != b {
			t.Errorf("Bits(%x) is %x", b, got)
		}
	})
}

func TestP1_2From(t *testing.T) {
	for _, e := range edges {
		if got := pattern(From(e.bits)); got != e.bits {
			t.Errorf("From(%x) is %x", e.bits, got)
		}
	}
	for _, b := range otherNaNs {
		if got := pattern(From(b)); got != nan {
			t.Errorf("From(%x) is %x, want the NaN", b, got)
		}
	}
	walk(func(b uint64) {
		if got := pattern(From(b)); got != b {
			t.Errorf("From(%x) is %x", b, got)
		}
	})
}

func TestP1_2Key(t *testing.T) {
	known := []struct {
		name      string
		bits, key uint64
	}{
		{"0", 0, 0x8000000000000000},
		{"-0", 0x8000000000000000, 0x7fffffffffffffff},
		{"1", 0x3ff0000000000000, 0xbff0000000000000},
		{"-1", 0xbff0000000000000, 0x400fffffffffffff},
		{"Inf", 0x7ff0000000000000, 0xfff0000000000000},
		{"-Inf", 0xfff0000000000000, 0x000fffffffffffff},
		{"smallest positive subnormal", 1, 0x8000000000000001},
		{"greatest negative subnormal", 0x8000000000000001, 0x7ffffffffffffffe},
		{"the NaN", nan, 0xfff8000000000000},
	}
	for _, k := range known {
		if got := Key(number(k.bits)); got != k.key {
			t.Errorf("Key(%s) is %x, want %x", k.name, got, k.key)
		}
	}
	for _, b := range otherNaNs {
		if got := Key(number(b)); got != 0xfff8000000000000 {
			t.Errorf("Key of NaN %x is %x, want that of the NaN", b, got)
		}
	}
}

func TestP1_3Encode(t *testing.T) {
	known := []struct {
		bits uint64
		want []byte
	}{
		{0x0123456789abcdef, []byte{0x01, 0x23, 0x45, 0x67, 0x89, 0xab, 0xcd, 0xef}},
		{0xc000000000000000, []byte{0xc0, 0, 0, 0, 0, 0, 0, 0}},
		{0x8000000000000000, []byte{0x80, 0, 0, 0, 0, 0, 0, 0}},
		{0, []byte{0, 0, 0, 0, 0, 0, 0, 0}},
		{1, []byte{0, 0, 0, 0, 0, 0, 0, 1}},
		{0xfff0000000000000, []byte{0xff, 0xf0, 0, 0, 0, 0, 0, 0}},
		{nan, []byte{0x7f, 0xf8, 0, 0, 0, 0, 0, 0}},
	}
	for _, k := range known {
		if got := Encode(number(k.bits)); !bytes.Equal(got, k.want) {
			t.Errorf("Encode(%x) is % x", k.bits, got)
		}
		if got, code := Decode(k.want); code != api.OK || pattern(got) != k.bits {
			t.Errorf("Decode(% x) is %x, %d", k.want, pattern(got), code)
		}
	}
	for _, b := range otherNaNs {
		if got := Encode(number(b)); !bytes.Equal(got, []byte{0x7f, 0xf8, 0, 0, 0, 0, 0, 0}) {
			t.Errorf("Encode of NaN %x is % x", b, got)
		}
	}
}

func TestP1_3EncodeAnswersNewMemory(t *testing.T) {
	a, b := Encode(1), Encode(1)
	a[0] = 0
	if !bytes.Equal(b, []byte{0x3f, 0xf0, 0, 0, 0, 0, 0, 0}) || !bytes.Equal(Encode(1), b) {
		t.Errorf("two answers share memory: % x", b)
	}
}

// refused checks that Decode answers ErrBad and the number zero.
func refused(t *testing.T, b []byte) {
	t.Helper()
	if x, code := Decode(b); code != api.ErrBad || pattern(x) != 0 {
		t.Errorf("Decode(% x) is %x, %d, want 0, ErrBad", b, pattern(x), code)
	}
}

func TestP1_3DecodeRefusesOtherLengths(t *testing.T) {
	long := append(Encode(1), Encode(1)...)
	for n := range len(long) + 1 {
		if n != 8 {
			refused(t, long[:n])
		}
	}
	refused(t, nil)
	refused(t, make([]byte, 1000))
}

// laid lays bits without the package.
func laid(b uint64) []byte {
	var out []byte
	for i := 56; i >= 0; i -= 8 {
		out = append(out, byte(b>>i))
	}
	return out
}

func TestP1_3DecodeRefusesOtherNaNs(t *testing.T) {
	refused(t, []byte{0x7f, 0xf0, 0, 0, 0, 0, 0, 1})
	for _, b := range otherNaNs {
		refused(t, laid(b))
	}
	for i := range 52 { // each NaN with one bit of its fraction set
		for _, sign := range []uint64{0, 1 << 63} {
			if b := sign | 0x7ff<<52 | 1<<i; b != nan {
				refused(t, laid(b))
			}
		}
	}
}

func TestP1_3DecodeLeavesItsArgument(t *testing.T) {
	room := []byte{0x40, 1, 2, 3, 4, 5, 6, 7, 8, 9}
	was := bytes.Clone(room)
	if x, code := Decode(room[:8]); code != api.OK || pattern(x) != 0x4001020304050607 {
		t.Errorf("Decode is %x, %d", pattern(x), code)
	}
	if !bytes.Equal(room, was) {
		t.Errorf("Decode turned its argument to % x", room)
	}
}

func TestP1_4NextAndPrev(t *testing.T) {
	for _, e := range edges {
		if got := pattern(Next(number(e.bits))); got != e.next {
			t.Errorf("Next(%s) is %x, want %x", e.name, got, e.next)
		}
		if got := pattern(Prev(number(e.bits))); got != e.prev {
			t.Errorf("Prev(%s) is %x, want %x", e.name, got, e.prev)
		}
	}
	for _, b := range otherNaNs {
		if next, prev := pattern(Next(number(b))), pattern(Prev(number(b))); next != nan || prev != nan {
			t.Errorf("of NaN %x: Next %x, Prev %x, want the NaN", b, next, prev)
		}
	}
}

func TestP1_4OfEveryExponent(t *testing.T) {
	up, down := math.Inf(1), math.Inf(-1)
	walk(func(b uint64) {
		x := number(b)
		if got, want := pattern(Next(x)), pattern(math.Nextafter(x, up)); got != want {
			t.Errorf("Next(%x) is %x, want %x", b, got, want)
		}
		if got, want := pattern(Prev(x)), pattern(math.Nextafter(x, down)); got != want {
			t.Errorf("Prev(%x) is %x, want %x", b, got, want)
		}
	})
}

func TestP1_5KeysOrderNumbers(t *testing.T) {
	for i, a := range edges {
		for k, b := range edges {
			if got := Key(number(a.bits)) < Key(number(b.bits)); got != (i < k) {
				t.Errorf("Key(%s) < Key(%s) is %v", a.name, b.name, got)
			}
		}
	}
	for _, b := range otherNaNs {
		if Key(number(b)) <= Key(math.Inf(1)) {
			t.Errorf("NaN %x is not above Inf", b)
		}
	}
	walk(func(b uint64) {
		x := number(b)
		if next := Next(x); x < next && Key(x) >= Key(next) {
			t.Errorf("Key(%x) is not below that of its Next", b)
		}
		if prev := Prev(x); prev < x && Key(prev) >= Key(x) {
			t.Errorf("Key(%x) is not above that of its Prev", b)
		}
	})
}

func TestP1_5DecodeUndoesEncode(t *testing.T) {
	back := func(b uint64) {
		x := number(b)
		if y, code := Decode(Encode(x)); code != api.OK || !Same(x, y) {
			t.Errorf("Decode(Encode(%x)) is %x, %d", b, pattern(y), code)
		}
	}
	for _, e := range edges {
		back(e.bits)
	}
	for _, b := range otherNaNs {
		back(b)
	}
	walk(back)
}
