package vary

import (
	"math/bits"

	"contango/api"
	"contango/cents"
)

// total is an exact sum of ints, in the two's complement of 128 bits: partial sums may exceed an int.
type total struct {
	high, low uint64
}

// purse holds a total for each currency.
type purse [api.MaxCur]total

// plus returns the total with an int more.
func (t total) plus(n int) total {
	low, carry := bits.Add64(t.low, uint64(n), 0)
	high, _ := bits.Add64(t.high, signBits(n), carry)
	return total{high: high, low: low}
}

// money returns the total as an amount; ErrOver if it does not fit.
func (t total) money() (n int, e api.Errno) {
	n = int(t.low)
	if t.high != signBits(n) || !cents.Fits(n) {
		return 0, api.ErrOver
	}
	return n, api.OK
}

func (p *purse) add(cur, n int) {
	p[cur] = p[cur].plus(n)
}

// amounts returns the totals of all currencies; ErrOver if one does not fit.
func (p *purse) amounts() (l []int, e api.Errno) {
	for _, t := range p {
		n, e := t.money()
		if e != api.OK {
			return nil, e
		}
		l = append(l, n)
	}
	return l, api.OK
}

// signBits returns the bits of an int that lie beyond its own 64 ones.
func signBits(n int) uint64 {
	if n < 0 {
		return ^uint64(0)
	}
	return 0
}
