// Package num is layer 1, checked integer arithmetic, exact division and decimal numbers: see shared/doc/01-num.md.
package num

import (
	"cmp"
	"math/bits"
	"slices"

	"bikeshare/api"
)

// halfBits is the number of the lower bits of a number that Sum adds up apart from the upper ones.
const halfBits = 25

func valid(n int) bool { return -api.MaxNum <= n && n <= api.MaxNum }

func natural(n int) bool { return 0 <= n && n <= api.MaxNum }

func abs(n int) int { return max(n, -n) }

// Add returns a + b: ErrRange unless both are from -MaxNum to MaxNum; ErrOverflow if the sum is not.
func Add(a, b int) (int, api.Errno) {
	if !valid(a) || !valid(b) {
		return 0, api.ErrRange
	}
	if !valid(a + b) {
		return 0, api.ErrOverflow
	}
	return a + b, api.OK
}

// Mul returns a * b: ErrRange unless both are from -MaxNum to MaxNum; ErrOverflow if the product is not.
func Mul(a, b int) (int, api.Errno) {
	if !valid(a) || !valid(b) {
		return 0, api.ErrRange
	}
	// A product of valid numbers may not fit into an int, so a quotient decides before it is computed.
	if a != 0 && abs(b) > api.MaxNum/abs(a) {
		return 0, api.ErrOverflow
	}
	return a * b, api.OK
}

// Sum returns the sum of l (0 of none): ErrRange unless all are from -MaxNum to MaxNum; ErrOverflow if the sum is not, whatever the partial sums are.
func Sum(l []int) (int, api.Errno) {
	// The partial sums of a long list may not fit into an int, but those of the upper and of the lower bits do.
	high, low := 0, 0
	for i := range len(l) {
		if !valid(l[i]) {
			return 0, api.ErrRange
		}
		high += l[i] >> halfBits
		low += l[i] & (1<<halfBits - 1)
	}
	high += low >> halfBits
	low &= 1<<halfBits - 1
	// Without this, joining the two parts might overflow.
	if abs(high) > api.MaxNum>>halfBits {
		return 0, api.ErrOverflow
	}
	n := high<<halfBits + low
	if !valid(n) {
		return 0, api.ErrOverflow
	}
	return n, api.OK
}

// MulDiv returns a * b / c, rounded down, computed exactly: ErrRange unless a and b are from 0 to MaxNum, and c from 1 to MaxNum; ErrOverflow if the result is greater than MaxNum.
func MulDiv(a, b, c int) (int, api.Errno) {
	if !natural(a) || !natural(b) || !natural(c) || c == 0 {
		return 0, api.ErrRange
	}
	q, _, ok := divide(a, b, c)
	if !ok {
		return 0, api.ErrOverflow
	}
	return q, api.OK
}

// divide returns a * b / c, rounded down, with the remainder, and whether this quotient is at most MaxNum. a and b must be from 0 to MaxNum, and c from 1 to MaxNum.
func divide(a, b, c int) (int, int, bool) {
	high, low := bits.Mul64(uint64(a), uint64(b))
	// bits.Div64 panics if the quotient needs more than 64 bits.
	if high >= uint64(c) {
		return 0, 0, false
	}
	q, rest := bits.Div64(high, low, uint64(c))
	if q > api.MaxNum {
		return 0, 0, false
	}
	return int(q), int(rest), true
}

// Nearest returns a / b, rounded to the nearest integer, halves up: ErrRange unless a is from -MaxNum to MaxNum, and b from 1 to MaxNum.
func Nearest(a, b int) (int, api.Errno) {
	if !valid(a) || !natural(b) || b == 0 {
		return 0, api.ErrRange
	}
	// The result is a / b + 1 / 2, rounded down; Go rounds quotients toward zero.
	n := 2*a + b
	q := n / (2 * b)
	if n%(2*b) < 0 {
		q--
	}
	return q, api.OK
}

// Share divides total among weights by the method of the largest remainder: part i first gets total * weights[i] / W, rounded down, where W is the sum of the weights; what remains is given, one unit each, to the parts with the largest remainders, of equal ones to those with lower indices first. ErrRange unless total is from 0 to MaxNum, there are 1 to MaxRecords weights, and each is from 0 to MaxNum; ErrOverflow if W is greater than MaxNum; ErrEmpty if W is 0 and total is not.
func Share(total int, weights []int) ([]int, api.Errno) {
	whole, e := weigh(total, weights)
	if e != api.OK {
		return nil, e
	}
	parts := make([]int, len(weights))
	if whole == 0 {
		return parts, api.OK
	}
	rests := make([]int, len(weights))
	left := total
	for i := range len(weights) {
		// No part is greater than total, so the quotient is always valid.
		parts[i], rests[i], _ = divide(total, weights[i], whole)
		left -= parts[i]
	}
	order := fromLargest(rests)
	// Fewer units are left than remainders are positive, so that an exact part never changes.
	for i := range left {
		parts[order[i]]++
	}
	return parts, api.OK
}

// weigh returns the sum of the weights, or the error of Share.
func weigh(total int, weights []int) (int, api.Errno) {
	if !natural(total) || len(weights) == 0 || len(weights) > api.MaxRecords {
		return 0, api.ErrRange
	}
	whole := 0
	for i := range len(weights) {
		if !natural(weights[i]) {
			return 0, api.ErrRange
		}
		whole += weights[i]
	}
	if whole > api.MaxNum {
		return 0, api.ErrOverflow
	}
	if whole == 0 && total != 0 {
		return 0, api.ErrEmpty
	}
	return whole, api.OK
}

// fromLargest returns the indices of the elements of l, those of larger elements first, and those of equal ones in order.
func fromLargest(l []int) []int {
	order := make([]int, len(l))
	for i := range len(l) {
		order[i] = i
	}
	slices.SortStableFunc(order, func(i, j int) int { return cmp.Compare(l[j], l[i]) })
	return order
}
