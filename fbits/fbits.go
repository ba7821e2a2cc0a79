// Package fbits is a number's bits: see DOC.md, chapter 1.
package fbits

import (
	"math"

	"scarp/api"
)

const (
	signBit  uint64 = 1 << 63
	expBits  uint64 = 0x7ff << 52
	fracBits uint64 = 1<<52 - 1
	nanBits  uint64 = 0x7ff8 << 48 // the NaN's

	posInf = expBits
	negInf = signBit | expBits

	leastPosSub    uint64 = 1
	greatestNegSub        = signBit | leastPosSub

	size = 8 // bytes of an encoded number
)

// Class is a number's.
func Class(x float64) int {
	if x != x {
		return api.NaN
	}
	b := math.Float64bits(x)
	negative := b&signBit != 0
	switch {
	case b&expBits == expBits:
		return either(negative, api.NegInf, api.PosInf)
	case b&expBits != 0:
		return either(negative, api.Neg, api.Pos)
	case b&fracBits != 0:
		return either(negative, api.NegSub, api.PosSub)
	}
	return either(negative, api.NegZero, api.PosZero)
}

func either(negative bool, below, above int) int {
	if negative {
		return below
	}
	return above
}

// Bits is its bits.
func Bits(x float64) uint64 {
	if x != x {
		return nanBits
	}
	return math.Float64bits(x)
}

// From is a number of bits.
func From(b uint64) float64 {
	if isNaN(b) {
		b = nanBits
	}
	return math.Float64frombits(b)
}

// isNaN asks the bits: a NaN's bits may be turned when they pass through a float64.
func isNaN(b uint64) bool {
	return b&^signBit > posInf
}

// Key is its place among all.
func Key(x float64) uint64 {
	b := Bits(x)
	if b&signBit != 0 {
		return ^b
	}
	return b | signBit
}

// Encode lays one.
func Encode(x float64) []byte {
	b := Bits(x)
	out := make([]byte, size)
	for i := range out {
		out[i] = byte(b >> (8 * (size - 1 - i)))
	}
	return out
}

// Decode reads one.
func Decode(b []byte) (float64, api.Errno) {
	if len(b) != size {
		return 0, api.ErrBad
	}
	var v uint64
	for _, c := range b {
		v = v<<8 | uint64(c)
	}
	if isNaN(v) && v != nanBits {
		return 0, api.ErrBad
	}
	return From(v), api.OK
}

// Next is the one above.
func Next(x float64) float64 {
	b := Bits(x)
	switch {
	case b == nanBits || b == posInf:
		return From(b)
	case b&^signBit == 0:
		return From(leastPosSub)
	case b&signBit != 0:
		return From(b - 1)
	}
	return From(b + 1)
}

// Prev is the one below.
func Prev(x float64) float64 {
	b := Bits(x)
	switch {
	case b == nanBits || b == negInf:
		return From(b)
	case b&^signBit == 0:
		return From(greatestNegSub)
	case b&signBit != 0:
		return From(b + 1)
	}
	return From(b - 1)
}

// Same compares two.
func Same(a, b float64) bool {
	return Bits(a) == Bits(b)
}
