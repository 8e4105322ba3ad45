// Package num is layer 1: see shared/doc/01-num.md.
package num

import (
	"math"
	"math/bits"
)

// Add answers the true sum, if it is an int.
func Add(a, b int) (int, bool) {
	s := a + b
	// A sum goes round just if both have one sign and it has the other one.
	if (a < 0) == (b < 0) && (s < 0) != (a < 0) {
		return 0, false
	}
	return s, true
}

// Sub answers the true difference, if it is an int.
func Sub(a, b int) (int, bool) {
	d := a - b
	// Not Add(a, -b): the least int has no negative.
	if (a < 0) != (b < 0) && (d < 0) != (a < 0) {
		return 0, false
	}
	return d, true
}

// Mul answers the true product, if it is an int.
func Mul(a, b int) (int, bool) {
	hi, lo := bits.Mul64(size(a), size(b))
	if hi != 0 {
		return 0, false
	}
	return signed(lo, (a < 0) != (b < 0))
}

// Sum adds one number behind the other: a sum on the way that doesn't fit
// ends it, even where what follows would bring it back.
func Sum(l ...int) (int, bool) {
	s := 0
	for _, n := range l {
		t, ok := Add(s, n)
		if !ok {
			return 0, false
		}
		s = t
	}
	return s, true
}

// Floor answers a by b, rounded to the lesser side, if it is an int.
func Floor(a, b int) (int, bool) {
	if b == 0 || a == math.MinInt && b == -1 {
		return 0, false
	}
	q := a / b
	// Go rounds towards 0, which is the greater side below 0.
	if a%b != 0 && (a < 0) != (b < 0) {
		q--
	}
	return q, true
}

// Rest answers what Floor leaves of a. It is less than b in size, so that it
// fits even where the quotient itself is no int.
func Rest(a, b int) (int, bool) {
	if b == 0 {
		return 0, false
	}
	r := a % b
	// Go's rest has the sign of a; that of a quotient rounded down has b's.
	if r != 0 && (r < 0) != (b < 0) {
		r += b
	}
	return r, true
}

// MulDiv answers a times b by c, rounded to the lesser side, if it is an int.
// The product has 128 bits on the way, so that it need not fit.
func MulDiv(a, b, c int) (int, bool) {
	hi, lo := bits.Mul64(size(a), size(b))
	d := size(c)
	// A quotient of more than 64 bits is no int; c = 0 ends here, too.
	if hi >= d {
		return 0, false
	}
	q, r := bits.Div64(hi, lo, d)
	below := ((a < 0) != (b < 0)) != (c < 0)
	if below && r != 0 {
		// Ahead of q + 1, which would go round to 0.
		if q == math.MaxUint64 {
			return 0, false
		}
		q++
	}
	return signed(q, below)
}

// In tells whether n is from lo to hi, both of them counted in.
func In(n, lo, hi int) bool {
	return lo <= n && n <= hi
}

// size is n without its sign. It goes round for the least int, whose size is
// no int, but is a uint64.
func size(n int) uint64 {
	if n < 0 {
		return -uint64(n)
	}
	return uint64(n)
}

// signed gives a size its sign back, if the number is an int: there is one
// more below 0 than above.
func signed(m uint64, below bool) (int, bool) {
	if below {
		if m > 1<<63 {
			return 0, false
		}
		return int(-m), true
	}
	if m > math.MaxInt {
		return 0, false
	}
	return int(m), true
}
