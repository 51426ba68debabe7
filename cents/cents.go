// Package cents computes sums, products and quotients of money exactly, and reports results that do not fit. See shared/doc/01-cents.md.
package cents

import "contango/api"

// moneyBits is the number of bits of MaxMoney.
const moneyBits = 61

// Fits reports whether n is between -MaxMoney and MaxMoney.
func Fits(n int) (ok bool) {
	return n >= -api.MaxMoney && n <= api.MaxMoney
}

// Add returns a + b: ErrArg if one of them does not fit, ErrOver if the sum does not.
func Add(a, b int) (n int, e api.Errno) {
	if !Fits(a) || !Fits(b) {
		return 0, api.ErrArg
	}
	return fitting(a + b)
}

// Sub returns a - b, with the errors of Add.
func Sub(a, b int) (n int, e api.Errno) {
	if !Fits(a) || !Fits(b) {
		return 0, api.ErrArg
	}
	return fitting(a - b)
}

// Sum returns the sum of all elements: ErrArg if one of them does not fit, ErrOver if the total does not.
func Sum(l []int) (n int, e api.Errno) {
	// The total is kept as full*MaxMoney + part, with part below MaxMoney either way, so that no partial sum overflows an int.
	full, part := 0, 0
	for _, v := range l {
		if !Fits(v) {
			return 0, api.ErrArg
		}
		part += v
		if part >= api.MaxMoney {
			full, part = full+1, part-api.MaxMoney
		} else if part <= -api.MaxMoney {
			full, part = full-1, part+api.MaxMoney
		}
	}
	if full > 1 || full < -1 {
		return 0, api.ErrOver
	}
	return fitting(full*api.MaxMoney + part)
}

// Mul returns a * b: ErrArg if one of them does not fit, ErrOver if the product does not.
func Mul(a, b int) (n int, e api.Errno) {
	return MulDiv(a, b, 1, api.Down)
}

// MulDiv returns a * b / c, rounded: ErrArg if one of the three does not fit or mode is no rounding mode, ErrZero if c is 0, ErrOver if the rounded result does not fit.
func MulDiv(a, b, c, mode int) (n int, e api.Errno) {
	if !Fits(a) || !Fits(b) || !Fits(c) || mode < api.Down || mode > api.Half {
		return 0, api.ErrArg
	}
	if c == 0 {
		return 0, api.ErrZero
	}
	quotient, remainder, ok := divide(size(a), size(b), size(c))
	if !ok {
		return 0, api.ErrOver
	}
	negative := (a < 0) != (b < 0) != (c < 0)
	growsIn := rounding(quotient, remainder, size(c), negative)
	if growsIn(mode) {
		quotient++
	}
	if negative {
		quotient = -quotient
	}
	return fitting(quotient)
}

// Clamp returns low if n is below low or low is above high, high if n is above high, and n otherwise.
func Clamp(n, low, high int) (m int) {
	if n < low || low > high {
		return low
	}
	if n > high {
		return high
	}
	return n
}

// fitting turns an exact result into what a call returns.
func fitting(n int) (int, api.Errno) {
	if !Fits(n) {
		return 0, api.ErrOver
	}
	return n, api.OK
}

// size returns the absolute value of an amount that fits.
func size(n int) int {
	if n < 0 {
		return -n
	}
	return n
}

// divide returns a * b / c, rounded down, and the remainder, for a, b and c that fit and are not negative, c not 0; ok is false if the quotient does not fit.
func divide(a, b, c int) (quotient, remainder int, ok bool) {
	// The product may exceed an int: it is divided bit by bit while it is formed, from a's highest bit on, and never held as a whole.
	for i := range moneyBits {
		quotient, remainder = 2*quotient, 2*remainder
		if a>>(moneyBits-1-i)&1 == 1 {
			quotient, remainder = quotient+b/c, remainder+b%c
		}
		quotient, remainder = quotient+remainder/c, remainder%c
		if !Fits(quotient) { // it only grows from here on
			return 0, 0, false
		}
	}
	return quotient, remainder, true
}

// rounding creates the function that decides, for each mode, whether the size of a quotient grows by one.
func rounding(quotient, remainder, divisor int, negative bool) func(mode int) bool {
	return func(mode int) bool {
		if remainder == 0 {
			return false
		}
		switch mode {
		case api.Up:
			return true
		case api.Floor:
			return negative
		case api.Ceil:
			return !negative
		case api.Half:
			twice := 2 * remainder
			return twice > divisor || twice == divisor && quotient%2 == 1
		}
		return false // Down
	}
}
