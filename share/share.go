// Package share divides amounts such that no cent is created or lost. See shared/doc/02-share.md.
package share

import "contango/api"

// quarts is the number of digits of MaxMoney in base 4, the greatest base in which portion's intermediate values stay within an int.
const quarts = 31

// Split divides a total in proportion to weights: ErrArg if the total is not between 0 and MaxMoney, ErrLong if there are too many weights, ErrWeight if a weight or their sum is not allowed.
func Split(total int, weights []int) (parts []int, e api.Errno) {
	if !inRange(total) {
		return nil, api.ErrArg
	}
	sum, e := sumOf(weights)
	if e != api.OK {
		return nil, e
	}
	if sum == 0 {
		return nil, api.ErrWeight
	}
	return divide(total, weights, sum), api.OK
}

// Signed is Split for a total of either sign; each part has the total's sign.
func Signed(total int, weights []int) (parts []int, e api.Errno) {
	if total >= 0 {
		return Split(total, weights)
	}
	if total < -api.MaxMoney {
		return nil, api.ErrArg
	}
	parts, e = Split(-total, weights)
	for i := range parts {
		parts[i] = -parts[i]
	}
	return parts, e
}

// Capped divides a total by weights in rounds, no part above its cap, and returns what nobody takes as well: ErrArg if the total is not between 0 and MaxMoney, ErrLong and ErrWeight as Split (but all weights may be 0), ErrArg if the caps are not as many or not between 0 and MaxMoney.
func Capped(total int, weights, caps []int) (parts []int, rest int, e api.Errno) {
	if !inRange(total) {
		return nil, 0, api.ErrArg
	}
	if _, e = sumOf(weights); e != api.OK {
		return nil, 0, e
	}
	if len(caps) != len(weights) || !allInRange(caps) {
		return nil, 0, api.ErrArg
	}
	parts, rest = make([]int, len(weights)), total
	open := openWeights(weights, caps)
	for rest > 0 {
		sum, _ := sumOf(open)
		if sum == 0 {
			break
		}
		offers := divide(rest, open, sum)
		taken := takeCaps(parts, open, offers, caps)
		if taken == 0 {
			takeAll(parts, offers)
			return parts, 0, api.OK
		}
		rest -= taken
	}
	return parts, rest, api.OK
}

// Fill gives each element, from the first on, its cap or what is left: ErrArg if the total or a cap is not between 0 and MaxMoney, ErrLong if there are too many caps.
func Fill(total int, caps []int) (parts []int, rest int, e api.Errno) {
	if e = checkRow(total, caps); e != api.OK {
		return nil, 0, e
	}
	parts, rest = make([]int, len(caps)), total
	for i := range caps {
		parts[i] = min(caps[i], rest)
		rest -= parts[i]
	}
	return parts, rest, api.OK
}

// Back gives each element, from the last to the first, what it paid or what is left, with the errors of Fill.
func Back(total int, paid []int) (parts []int, rest int, e api.Errno) {
	if e = checkRow(total, paid); e != api.OK {
		return nil, 0, e
	}
	parts, rest = make([]int, len(paid)), total
	for i := len(paid) - 1; i >= 0; i-- {
		parts[i] = min(paid[i], rest)
		rest -= parts[i]
	}
	return parts, rest, api.OK
}

// inRange reports whether an amount is between 0 and MaxMoney.
func inRange(n int) bool {
	return n >= 0 && n <= api.MaxMoney
}

// allInRange reports whether all amounts are between 0 and MaxMoney.
func allInRange(l []int) bool {
	for _, n := range l {
		if !inRange(n) {
			return false
		}
	}
	return true
}

// sumOf returns the sum of weights, which may be 0, or the error of Split.
func sumOf(weights []int) (sum int, e api.Errno) {
	if len(weights) > api.MaxList {
		return 0, api.ErrLong
	}
	for _, w := range weights {
		if !inRange(w) || w > api.MaxMoney-sum {
			return 0, api.ErrWeight
		}
		sum += w
	}
	return sum, api.OK
}

// checkRow returns the error of Fill and Back; a bad amount is named ahead of a list that is too long.
func checkRow(total int, l []int) api.Errno {
	if !inRange(total) || !allInRange(l) {
		return api.ErrArg
	}
	if len(l) > api.MaxList {
		return api.ErrLong
	}
	return api.OK
}

// divide returns the parts of a total by weights that were checked; sum is theirs and above 0.
func divide(total int, weights []int, sum int) (parts []int) {
	parts = make([]int, len(weights))
	remainders := make([]int, len(weights))
	left := total
	for i, w := range weights {
		parts[i], remainders[i] = portion(total, w, sum)
		left -= parts[i]
	}
	largest := func() (best int) {
		for i, r := range remainders {
			if r > remainders[best] {
				best = i
			}
		}
		return best
	}
	for range left {
		i := largest()
		parts[i]++
		remainders[i] = 0 // more remainders are above 0 than cents are left: this one is not found again
	}
	return parts
}

// portion returns total * weight / sum, rounded down, and the remainder; weight is at most sum.
func portion(total, weight, sum int) (quotient, remainder int) {
	// The product may exceed an int: it is divided digit by digit while it is formed, from the total's highest digit on, and never held as a whole.
	for i := range quarts {
		digit := total >> (2 * (quarts - 1 - i)) & 3
		value := 4*remainder + digit*weight
		quotient, remainder = 4*quotient+value/sum, value%sum
	}
	return quotient, remainder
}

// openWeights returns a copy of the weights, with 0 for the elements that can receive nothing.
func openWeights(weights, caps []int) (open []int) {
	open = make([]int, len(weights))
	for i, w := range weights {
		if caps[i] > 0 {
			open[i] = w
		}
	}
	return open
}

// takeCaps gives each element that was offered more than its cap just the cap, closes its weight, and returns how much that is in all: 0 only if there is no such element, since an open one's cap is above 0.
func takeCaps(parts, open, offers, caps []int) (taken int) {
	for i, offer := range offers {
		if offer > caps[i] {
			parts[i] = caps[i]
			open[i] = 0
			taken += caps[i]
		}
	}
	return taken
}

// takeAll gives what was offered to the elements that are still open; the others were offered nothing.
func takeAll(parts, offers []int) {
	for i, offer := range offers {
		parts[i] += offer
	}
}
