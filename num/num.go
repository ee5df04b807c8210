// Package num is layer 1: sums and products that may be too great. See shared/doc/01-num.md.
package num

import (
	"math"
	"math/bits"
)

// Add is a sum; whether it fits.
func Add(a, b int) (int, bool) {
	s := a + b
	// A sum that wrapped round lies on the wrong side of a.
	if (s > a) != (b > 0) {
		return 0, false
	}
	return s, true
}

// Less is a difference; whether it fits.
func Less(a, b int) (int, bool) {
	d := a - b
	// A difference that wrapped round lies on the wrong side of a.
	if (d < a) != (b > 0) {
		return 0, false
	}
	return d, true
}

// Times is a product; whether it fits.
func Times(a, b int) (int, bool) {
	high, low := bits.Mul64(size(a), size(b))
	if high != 0 {
		return 0, false
	}
	if (a < 0) != (b < 0) {
		return below(low)
	}
	if low > math.MaxInt {
		return 0, false
	}
	return int(low), true
}

// size is a number without its sign; unsigned, as that of -2^63 does not fit otherwise.
func size(a int) uint64 {
	if a < 0 {
		return -uint64(a)
	}
	return uint64(a)
}

// below is the number below 0 of a size; whether it fits.
func below(n uint64) (int, bool) {
	// There is one number more below 0 than above it.
	if n > math.MaxInt+1 {
		return 0, false
	}
	return int(-n), true
}

// Floor is a quotient's floor; whether it fits.
func Floor(a, b int) (int, bool) {
	if !divides(a, b) {
		return 0, false
	}
	q := a / b
	// Go cuts towards 0, which is up for a quotient below it.
	if a%b != 0 && (a < 0) != (b < 0) {
		q--
	}
	return q, true
}

// Ceil is a quotient's ceiling; whether it fits.
func Ceil(a, b int) (int, bool) {
	if !divides(a, b) {
		return 0, false
	}
	q := a / b
	// Go cuts towards 0, which is down for a quotient above it.
	if a%b != 0 && (a < 0) == (b < 0) {
		q++
	}
	return q, true
}

// divides tells whether a by b is a number that fits: 2^63 is the only quotient that does not.
func divides(a, b int) bool {
	return b != 0 && (a != math.MinInt || b != -1)
}

// Sum is all together; whether it fits.
func Sum(l ...int) (int, bool) {
	// 128 bits, so that sums on the way may leave the range and come back.
	high, low := 0, uint64(0)
	for _, n := range l {
		next, carry := bits.Add64(low, uint64(n), 0)
		low = next
		high += sign(n) + int(carry)
	}
	// It fits just if the upper half only repeats the lower one's sign.
	if high != sign(int(low)) {
		return 0, false
	}
	return int(low), true
}

// sign is what a number's upper 64 bits are, when it has 128.
func sign(n int) int {
	if n < 0 {
		return -1
	}
	return 0
}

// Clip is a number within bounds; where these cross, the upper one holds.
func Clip(a, least, most int) int {
	return min(max(a, least), most)
}

// Sat is a sum, or the nearest number that fits.
func Sat(a, b int) int {
	if s, ok := Add(a, b); ok {
		return s
	}
	// Only two numbers of the same sign have a sum that does not fit.
	if a < 0 {
		return math.MinInt
	}
	return math.MaxInt
}
