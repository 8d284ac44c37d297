// Package rat: exact rational numbers: see doc/01-rat.md.
package rat

import (
	"cmp"

	"marigraph/api"
)

// New answers n / d in its lowest terms.
func New(n, d int64) (api.Rat, api.Errno) {
	if d == 0 {
		return api.Rat{}, api.ErrArg
	}
	top, bottom := size(n), size(d)
	common := divisor(top, bottom)
	top, bottom = top/common, bottom/common
	if top > api.MaxNumber || bottom > api.MaxNumber {
		return api.Rat{}, api.ErrOver
	}
	r := api.Rat{N: int64(top), D: int64(bottom)}
	if (n < 0) != (d < 0) {
		r.N = -r.N
	}
	return r, api.OK
}

// Of answers the whole number n.
func Of(n int64) (api.Rat, api.Errno) { return New(n, 1) }

// Right tells whether r is within the limits and in its lowest terms.
func Right(r api.Rat) bool {
	if r.D < 1 || r.D > api.MaxNumber || r.N < -api.MaxNumber || r.N > api.MaxNumber {
		return false
	}
	return divisor(size(r.N), size(r.D)) == 1
}

// Add answers a + b. Of Right numbers each product is below 2^62, so nothing wraps round here, nor in Sub, Mul, Div and Cmp.
func Add(a, b api.Rat) (api.Rat, api.Errno) {
	if !Right(a) || !Right(b) {
		return api.Rat{}, api.ErrArg
	}
	return New(a.N*b.D+b.N*a.D, a.D*b.D)
}

// Sub answers a - b.
func Sub(a, b api.Rat) (api.Rat, api.Errno) {
	if !Right(a) || !Right(b) {
		return api.Rat{}, api.ErrArg
	}
	return New(a.N*b.D-b.N*a.D, a.D*b.D)
}

// Mul answers a * b.
func Mul(a, b api.Rat) (api.Rat, api.Errno) {
	if !Right(a) || !Right(b) {
		return api.Rat{}, api.ErrArg
	}
	return New(a.N*b.N, a.D*b.D)
}

// Div answers a / b.
func Div(a, b api.Rat) (api.Rat, api.Errno) {
	if !Right(a) || !Right(b) || b.N == 0 {
		return api.Rat{}, api.ErrArg
	}
	return New(a.N*b.D, a.D*b.N)
}

// Cmp tells the order of a and b; one that is not Right comes ahead of all that are.
func Cmp(a, b api.Rat) int {
	rightA, rightB := Right(a), Right(b)
	switch {
	case rightA && rightB:
		return cmp.Compare(a.N*b.D, b.N*a.D)
	case rightA:
		return 1
	case rightB:
		return -1
	}
	return 0
}

// Must answers r, and panics with e where e is a refusal: a long sum is written without asking after each step, and whoever writes it recovers.
func Must(r api.Rat, e api.Errno) api.Rat {
	if e != api.OK {
		panic(e)
	}
	return r
}

// size is n without its sign; unsigned, because the least int64 has no counterpart above 0.
func size(n int64) uint64 {
	if n < 0 {
		return -uint64(n)
	}
	return uint64(n)
}

// divisor is the greatest number that divides both; of a 0 it is the other one, which makes 0 / d come out as 0 / 1.
func divisor(a, b uint64) uint64 {
	for b != 0 {
		a, b = b, a%b
	}
	return a
}
