// Package bits is layer 1: arithmetic on 32-bit words: see shared/doc/01-bits.md.
package bits

import "math"

// Kinds of Shift.
const (
	Left  = 0
	Right = 1
	Arith = 2
)

// Kinds of division.
const (
	unsigned = iota
	symmetric
	floored
)

// Sext extends the lowest n bits of v, as a signed number, to a word.
func Sext(v uint32, n int) uint32 {
	if n < 1 || n > 32 {
		return 0
	}
	unused := 32 - n
	return uint32(int32(v<<unused) >> unused)
}

// Field returns the n bits of v from bit number from on.
func Field(v uint32, from, n int) uint32 {
	// from + n could wrap round, 32 - n can't.
	if from < 0 || n < 1 || from > 32-n {
		return 0
	}
	unused := 32 - n
	return v >> from << unused >> unused
}

// Less reports whether a is less than b, both signed.
func Less(a, b uint32) bool {
	return int32(a) < int32(b)
}

// Shift shifts a by the lowest five bits of by.
func Shift(a uint32, by uint32, kind int) uint32 {
	by &= 31
	switch kind {
	case Left:
		return a << by
	case Right:
		return a >> by
	case Arith:
		return uint32(int32(a) >> by)
	}
	return 0
}

// Mulh returns the upper word of the product of a and b, both signed.
func Mulh(a, b uint32) uint32 {
	return uint32(uint64(signed(a)*signed(b)) >> 32)
}

// Mulhsu returns the upper word of the product of a, signed, and b, unsigned.
func Mulhsu(a, b uint32) uint32 {
	return uint32(uint64(signed(a)*int64(b)) >> 32)
}

// Mulhu returns the upper word of the product of a and b, both unsigned.
func Mulhu(a, b uint32) uint32 {
	return uint32(uint64(a) * uint64(b) >> 32)
}

// Div returns the quotient of a and b, both signed, rounded towards zero.
func Div(a, b uint32) uint32 {
	if b == 0 {
		return math.MaxUint32
	}
	// The quotient of -2^31 and -1 wraps round to -2^31, as it shall.
	return uint32(int32(a) / int32(b))
}

// Divu returns the quotient of a and b, both unsigned.
func Divu(a, b uint32) uint32 {
	if b == 0 {
		return math.MaxUint32
	}
	return a / b
}

// Rem returns the remainder of a and b, both signed, for Div's quotient.
func Rem(a, b uint32) uint32 {
	if b == 0 {
		return a
	}
	return uint32(int32(a) % int32(b))
}

// Remu returns the remainder of a and b, both unsigned.
func Remu(a, b uint32) uint32 {
	if b == 0 {
		return a
	}
	return a % b
}

// Double returns the double word of two halves.
func Double(lo, hi uint32) uint64 {
	return uint64(hi)<<32 | uint64(lo)
}

// UmMod divides v by d, both unsigned.
func UmMod(v uint64, d uint32) (q, r uint32, ok bool) {
	return divide(v, d, unsigned)
}

// SmRem divides v by d, both signed, rounding towards zero.
func SmRem(v uint64, d uint32) (q, r uint32, ok bool) {
	return divide(v, d, symmetric)
}

// FmMod divides v by d, both signed, rounding towards minus infinity.
func FmMod(v uint64, d uint32) (q, r uint32, ok bool) {
	return divide(v, d, floored)
}

// divide divides v by d as the kind says; ok is false if no word is the quotient.
func divide(v uint64, d uint32, kind int) (q, r uint32, ok bool) {
	if d == 0 {
		return 0, 0, false
	}
	n, m := int64(v), signed(d)
	down := int64(0) // by how much the quotient is less than the one rounded towards zero
	switch kind {
	case floored:
		if n%m != 0 && (n < 0) != (m < 0) {
			down = 1
		}
		fallthrough
	case symmetric:
		// Only the quotient of -2^63 and -1 wraps round, to one that is out of range too.
		quot := n/m - down
		if quot < math.MinInt32 || quot > math.MaxInt32 {
			return 0, 0, false
		}
		return uint32(quot), uint32(n%m + down*m), true
	}
	quot := v / uint64(d)
	if quot > math.MaxUint32 {
		return 0, 0, false
	}
	return uint32(quot), uint32(v % uint64(d)), true
}

// signed returns the signed value of a word.
func signed(a uint32) int64 {
	return int64(int32(a))
}
