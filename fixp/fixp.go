// Package fixp is layer 1: exact integer amounts. A result that is not an amount is an error; nothing wraps around.
package fixp

import (
	"math/bits"

	"bulwark/api"
)

// Fits reports whether x is an amount.
func Fits(x int) bool {
	return -api.MaxAmount <= x && x <= api.MaxAmount
}

// Add returns a plus b.
func Add(a int, b int) (int, api.Errno) {
	if !Fits(a) || !Fits(b) {
		return 0, api.ErrOver
	}
	// Of two amounts the one sum that wraps is 2^63; it becomes -2^63, which is not an amount either.
	return checked(a + b)
}

// Sub returns a minus b.
func Sub(a int, b int) (int, api.Errno) {
	// The amounts lie evenly about 0: -b is one exactly if b is, even where negating the least int gives itself.
	return Add(a, -b)
}

// Mul returns a times b.
func Mul(a int, b int) (int, api.Errno) {
	return MulDiv(a, b, 1, api.Zero)
}

// MulDiv returns a times b divided by c, rounded to an integer as mode says. The product itself may be beyond the amounts.
func MulDiv(a int, b int, c int, mode int) (int, api.Errno) {
	switch {
	case !Fits(a) || !Fits(b) || !Fits(c):
		return 0, api.ErrOver
	case c == 0 || mode < api.Down || mode > api.Away:
		return 0, api.ErrArg
	}
	high, low := bits.Mul64(size(a), size(b))
	divisor := size(c)
	// A quotient of more than 64 bits is not an amount, and Div64 would panic at it.
	if high >= divisor {
		return 0, api.ErrOver
	}
	quotient, rest := bits.Div64(high, low, divisor)
	// Rounding only makes the quotient greater, but would wrap the greatest one to 0: what is beyond already ends here.
	if quotient > api.MaxAmount {
		return 0, api.ErrOver
	}
	negative := (a < 0) != (b < 0) != (c < 0)
	if rest != 0 && outward(mode, negative) {
		quotient++
	}
	if negative {
		return checked(-int(quotient))
	}
	return checked(int(quotient))
}

// Sum adds all of xs, one after the other, to 0.
func Sum(xs ...int) (int, api.Errno) {
	return fold(0, xs, Add)
}

// Prod multiplies 1 by all of xs, one after the other.
func Prod(xs ...int) (int, api.Errno) {
	return fold(1, xs, Mul)
}

// fold ends at the first error, since what follows can't bring an amount back.
func fold(total int, xs []int, step func(int, int) (int, api.Errno)) (int, api.Errno) {
	for _, x := range xs {
		next, e := step(total, x)
		if e != api.OK {
			return 0, e
		}
		total = next
	}
	return total, api.OK
}

// checked returns x, if it is an amount.
func checked(x int) (int, api.Errno) {
	if !Fits(x) {
		return 0, api.ErrOver
	}
	return x, api.OK
}

// size returns the absolute value of an amount.
func size(x int) uint64 {
	if x < 0 {
		return uint64(-x)
	}
	return uint64(x)
}

// outward reports whether a value with a fraction is rounded to the integer farther from 0.
func outward(mode int, negative bool) bool {
	switch mode {
	case api.Down:
		return negative
	case api.Up:
		return !negative
	}
	return mode == api.Away
}
