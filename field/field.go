// Package field implements layer 1: arithmetic in the fields of Mersenne primes. See shared/doc/01-field.md.
package field

import (
	"math/bits"

	"privity/api"
)

// Supported reports whether p is one of the Mersenne primes that the system works with.
func Supported(p uint64) bool { return Exponent(p) != 0 }

// Exponent returns q for the supported prime 2^q - 1, and 0 for any other number.
func Exponent(p uint64) int {
	switch p {
	case 1<<5 - 1, 1<<7 - 1, 1<<13 - 1, 1<<17 - 1, 1<<19 - 1, 1<<31 - 1, 1<<61 - 1:
		return bits.Len64(p)
	}
	return 0
}

// Reduce returns n modulo p.
func Reduce(p, n uint64) uint64 {
	// No field has p = 0; the guard keeps the division from panicking.
	if p == 0 {
		return 0
	}
	return n % p
}

// Add returns a + b.
func Add(p, a, b uint64) uint64 { return subtractOnce(p, a+b) }

// Sub returns a - b.
func Sub(p, a, b uint64) uint64 {
	if a >= b {
		return a - b
	}
	return a + (p - b)
}

// Neg returns -a.
func Neg(p, a uint64) uint64 { return Sub(p, 0, a) }

// Mul returns the product of a and b.
func Mul(p, a, b uint64) uint64 {
	high, low := bits.Mul64(a, b)
	q := uint(bits.Len64(p))
	// Since 2^q is 1 modulo p, the product is congruent to its lowest q bits plus the bits above them.
	// The former are at most p and the latter are below p, because the product is below p squared.
	return subtractOnce(p, (low&p)+(high<<(64-q)|low>>q))
}

// Pow returns a to the power of n.
func Pow(p, a, n uint64) uint64 {
	power := uint64(1)
	for ; n > 0; n >>= 1 {
		if n&1 == 1 {
			power = Mul(p, power, a)
		}
		a = Mul(p, a, a)
	}
	return power
}

// Inverse returns the multiplicative inverse of a, or ErrZero if a is 0.
func Inverse(p, a uint64) (uint64, api.Errno) {
	if a == 0 {
		return 0, api.ErrZero
	}
	// a to the power of p - 1 is 1.
	return Pow(p, a, p-2), api.OK
}

// Sqrt returns the square root of a that is at most (p - 1) / 2, or ErrZero if a is not a square.
func Sqrt(p, a uint64) (uint64, api.Errno) {
	// p is 3 modulo 4: if a is a square, then a to the power of (p + 1) / 4 is one of its roots.
	root := Pow(p, a, p/4+1)
	if Mul(p, root, root) != a {
		return 0, api.ErrZero
	}
	if root > (p-1)/2 {
		root = Neg(p, root)
	}
	return root, api.OK
}

// subtractOnce returns n modulo p for n below 2p.
func subtractOnce(p, n uint64) uint64 {
	if n >= p {
		return n - p
	}
	return n
}
