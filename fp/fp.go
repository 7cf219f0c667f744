// Package fp is layer 1: a field of numbers: see shared/doc/01-fp.md.
package fp

import (
	"math/bits"

	"caucus/api"
)

// Of is a number as one of the field.
func Of(v uint64) uint64 { return v % api.Prime }

// Add is a sum; both are made less first, for those of 64 bits would wrap.
func Add(a, b uint64) uint64 { return Of(Of(a) + Of(b)) }

// Sub is a difference; Prime is added ahead, so that it never falls below 0.
func Sub(a, b uint64) uint64 { return Of(Of(a) + api.Prime - Of(b)) }

// Mul is a product, divided with all its 128 bits, for 64 would lose some.
func Mul(a, b uint64) uint64 {
	hi, lo := bits.Mul64(a, b)
	return bits.Rem64(hi, lo, api.Prime)
}

// Pow is a power. It squares, since n factors, one by one, might not end in a lifetime;
// n is no number of the field, and stays whole.
func Pow(a, n uint64) uint64 {
	p := uint64(1)
	for ; n > 0; n >>= 1 {
		if n&1 == 1 {
			p = Mul(p, a)
		}
		a = Mul(a, a)
	}
	return p
}

// Inv is the number whose product with another one is 1: Prime is a prime, so a to the
// power of Prime less 1 is 1, and one factor fewer is what a lacks.
func Inv(a uint64) (uint64, error) {
	if Of(a) == 0 {
		return 0, api.ErrArg
	}
	return Pow(a, api.Prime-2), nil
}

// Div is a quotient.
func Div(a, b uint64) (uint64, error) {
	inv, err := Inv(b)
	if err != nil {
		return 0, err
	}
	return Mul(a, inv), nil
}
