// Package nat is layer 1: whole numbers from 0 on, however great. See shared/doc/01-nat.md.
package nat

import (
	"cmp"
	"math"
	"math/bits"
	"slices"

	"sieveholes/api"
)

// Nat is a number. Its zero value is 0. A number's limbs are never written after it was made.
type Nat struct {
	limbs []uint64 // the first one counts ones; no 0 at the end; nil for 0
}

// Of is the number n.
func Of(n uint64) Nat { return Limbs(n) }

// Limbs is the number of these limbs; noughts at the end count for nothing.
func Limbs(l ...uint64) Nat { return Nat{slices.Clone(trim(l))} }

// trim cuts off the noughts at the end. It gives nil where nothing is left, so that 0 is kept in one way alone.
func trim(l []uint64) []uint64 {
	for len(l) > 0 && l[len(l)-1] == 0 {
		l = l[:len(l)-1]
	}
	if len(l) == 0 {
		return nil
	}
	return l
}

// All are the number's limbs.
func (n Nat) All() []uint64 { return slices.Clone(n.limbs) }

// Len is how many limbs there are.
func (n Nat) Len() int { return len(n.limbs) }

// Small is the number, and true, if it is below 2^64; else 0 and false.
func (n Nat) Small() (uint64, bool) {
	if len(n.limbs) > 1 {
		return 0, false
	}
	return n.limb(0), true
}

// limb is 0 behind the last one: short and long numbers are gone over together.
func (n Nat) limb(i int) uint64 {
	if i < len(n.limbs) {
		return n.limbs[i]
	}
	return 0
}

// Cmp is -1, if a is less than b, 0, if they are the same, and 1, if a is greater.
func Cmp(a, b Nat) int {
	if c := cmp.Compare(len(a.limbs), len(b.limbs)); c != 0 {
		return c
	}
	for i := len(a.limbs) - 1; i >= 0; i-- {
		if c := cmp.Compare(a.limbs[i], b.limbs[i]); c != 0 {
			return c
		}
	}
	return 0
}

// Max is the greatest of these; of none it is 0.
func Max(l ...Nat) Nat {
	var greatest Nat
	for _, n := range l {
		if Cmp(n, greatest) > 0 {
			greatest = n
		}
	}
	return Limbs(greatest.limbs...) // an answer shares no memory with what was handed in
}

// Add is the sum.
func Add(a, b Nat) Nat {
	var carry uint64
	return limbByLimb(a, b, func(x, y uint64) (sum uint64) {
		sum, carry = bits.Add64(x, y, carry)
		return sum
	})
}

// Sub is the difference; 0 and ErrLess, if a is less than b.
func Sub(a, b Nat) (Nat, api.Errno) {
	if Cmp(a, b) < 0 {
		return Nat{}, api.ErrLess
	}
	var borrow uint64
	return limbByLimb(a, b, func(x, y uint64) (difference uint64) {
		difference, borrow = bits.Sub64(x, y, borrow)
		return difference
	}), api.OK
}

// limbByLimb is what a step makes of two numbers' limbs, the ones first. It goes one limb further than the longer
// number has any, so that a carry of the last ones finds its place.
func limbByLimb(a, b Nat, step func(x, y uint64) uint64) Nat {
	made := make([]uint64, max(len(a.limbs), len(b.limbs))+1)
	for i := range made {
		made[i] = step(a.limb(i), b.limb(i))
	}
	return Nat{trim(made)}
}

// Mul is the product.
func Mul(a, b Nat) Nat {
	made := make([]uint64, len(a.limbs)+len(b.limbs))
	for i, x := range a.limbs {
		addTimes(made[i:], x, b.limbs)
	}
	return Nat{trim(made)}
}

// addTimes adds x times the limbs to a row, whose limb just behind them is still 0.
func addTimes(row []uint64, x uint64, limbs []uint64) {
	var carry uint64
	for i, y := range limbs {
		high, low := bits.Mul64(x, y)
		low, over := bits.Add64(low, carry, 0)
		high += over
		row[i], over = bits.Add64(row[i], low, 0)
		carry = high + over // (2^64-1)^2 and twice 2^64-1 are just below 2^128: nothing is lost
	}
	row[len(limbs)] = carry
}

// Sum is the sum of all; of none it is 0.
func Sum(l ...Nat) Nat {
	add := Cap(math.MaxInt).Add // no number in memory has more limbs: every sum fits
	var sum Nat
	for _, n := range l {
		sum, _ = add(sum, n)
	}
	return sum
}

// Cap is how many limbs a number may have; one below 0 counts as 0.
type Cap int

// Fits tells whether a number has not more limbs than that.
func (c Cap) Fits(n Nat) bool { return c.allows(n.Len()) }

func (c Cap) allows(limbs int) bool { return limbs <= max(int(c), 0) }

// Add is the sum, and true, if it fits; else 0 and false.
func (c Cap) Add(a, b Nat) (Nat, bool) {
	if !c.Fits(a) || !c.Fits(b) { // a sum has as many limbs at least: it need not be made
		return Nat{}, false
	}
	return c.hold(Add(a, b))
}

// Mul is the product, and true, if it fits; else 0 and false.
func (c Cap) Mul(a, b Nat) (Nat, bool) {
	if a.Len() == 0 || b.Len() == 0 {
		return Nat{}, true
	}
	if !c.allows(a.Len() + b.Len() - 1) { // a product has as many limbs at least: it need not be made
		return Nat{}, false
	}
	return c.hold(Mul(a, b))
}

// hold answers a number as far as it fits.
func (c Cap) hold(n Nat) (Nat, bool) {
	if !c.Fits(n) {
		return Nat{}, false
	}
	return n, true
}
