package field

import (
	"math/big"
	"testing"

	"privity/api"
)

var primes = []uint64{31, 127, 8191, 131071, 524287, 2147483647, 2305843009213693951}

var exponents = []int{5, 7, 13, 17, 19, 31, 61}

// smallPrimes are the primes whose elements are few enough to try all of them.
var smallPrimes = []uint64{31, 127}

// sampler yields a fixed sequence of words, so that every run tests the same cases.
type sampler struct{ state uint64 }

func (s *sampler) word() uint64 {
	s.state += 0x9e3779b97f4a7c15
	z := s.state
	z = (z ^ z>>30) * 0xbf58476d1ce4e5b9
	z = (z ^ z>>27) * 0x94d049bb133111eb
	return z ^ z>>31
}

// elements returns elements of the field of p: all of them if they are few, otherwise the edges, powers of 2 and count samples.
func elements(p uint64, count int) []uint64 {
	var list []uint64
	if p <= 127 {
		for a := range p {
			list = append(list, a)
		}
		return list
	}
	list = append(list, 0, 1, 2, 3, (p-1)/2, (p+1)/2, p-3, p-2, p-1)
	for power := uint64(4); power < p; power *= 2 {
		list = append(list, power)
	}
	s := sampler{p}
	for range count {
		list = append(list, s.word()%p)
	}
	return list
}

// numbers returns exponents and numbers to reduce: the edges of uint64 and of p, and samples of all sizes.
func numbers(p uint64) []uint64 {
	list := []uint64{0, 1, 2, 3, p - 2, p - 1, p, p + 1, p + 5, 2*p - 1, 2 * p, 2*p + 1, 1 << 63, 1<<64 - 2, 1<<64 - 1}
	s := sampler{p + 1}
	for shift := range 64 {
		list = append(list, s.word()>>shift)
	}
	return list
}

func bigOf(n uint64) *big.Int { return new(big.Int).SetUint64(n) }

// residue returns n modulo p as the mathematics defines it, without the code under test.
func residue(n *big.Int, p uint64) uint64 { return new(big.Int).Mod(n, bigOf(p)).Uint64() }

// equal reports a wrong value; args are the arguments with which it came about.
func equal(t *testing.T, what string, got, want uint64, args ...uint64) {
	t.Helper()
	if got != want {
		t.Errorf("%s %d: got %d, want %d", what, args, got, want)
	}
}

// sameErrno reports a wrong error; args are the arguments with which it came about.
func sameErrno(t *testing.T, what string, got, want api.Errno, args ...uint64) {
	t.Helper()
	if got != want {
		t.Errorf("%s %d: got error %d, want %d", what, args, got, want)
	}
}

func TestSupportedPrimes(t *testing.T) { // P1.1
	for i, p := range primes {
		if !Supported(p) {
			t.Errorf("Supported(%d) is false", p)
		}
		if got := Exponent(p); got != exponents[i] {
			t.Errorf("Exponent(%d) is %d, want %d", p, got, exponents[i])
		}
		if p != 1<<exponents[i]-1 {
			t.Errorf("%d is not 2^%d - 1", p, exponents[i])
		}
	}
}

func TestUnsupportedNumbers(t *testing.T) { // P1.1
	supported := map[uint64]bool{}
	for _, p := range primes {
		supported[p] = true
	}
	check := func(p uint64) {
		if supported[p] {
			return
		}
		if Supported(p) {
			t.Errorf("Supported(%d) is true", p)
		}
		if got := Exponent(p); got != 0 {
			t.Errorf("Exponent(%d) is %d, want 0", p, got)
		}
	}
	for p := range uint64(1 << 20) {
		check(p)
	}
	for q := range 65 {
		power := uint64(1) << q // 0 for q = 64, so that the numbers around it wrap round
		for _, p := range []uint64{power - 3, power - 2, power - 1, power, power + 1} {
			check(p)
		}
	}
	for _, p := range primes {
		for q := range 64 {
			check(p ^ 1<<q)
		}
		check(2 * p)
		check(3 * p)
	}
}

func TestReduce(t *testing.T) { // P1.2
	for _, p := range primes {
		for _, n := range numbers(p) {
			equal(t, "Reduce", Reduce(p, n), residue(bigOf(n), p), p, n)
		}
	}
	equal(t, "Reduce(31, 31)", Reduce(31, 31), 0)
	equal(t, "Reduce(31, 2^64 - 1)", Reduce(31, 1<<64-1), 15)
	equal(t, "Reduce(2^61 - 1, 2^64 - 1)", Reduce(1<<61-1, 1<<64-1), 7)
}

func TestSumsAndProducts(t *testing.T) { // P1.2
	for _, p := range primes {
		list := elements(p, 60)
		for _, a := range list {
			equal(t, "Neg", Neg(p, a), residue(new(big.Int).Neg(bigOf(a)), p), p, a)
			for _, b := range list {
				equal(t, "Add", Add(p, a, b), residue(new(big.Int).Add(bigOf(a), bigOf(b)), p), p, a, b)
				equal(t, "Sub", Sub(p, a, b), residue(new(big.Int).Sub(bigOf(a), bigOf(b)), p), p, a, b)
				equal(t, "Mul", Mul(p, a, b), residue(new(big.Int).Mul(bigOf(a), bigOf(b)), p), p, a, b)
			}
		}
	}
}

func TestEdgesOfSumsAndProducts(t *testing.T) { // P1.2
	for _, p := range primes {
		equal(t, "the sum p", Add(p, p-1, 1), 0, p)
		equal(t, "the greatest sum", Add(p, p-1, p-1), p-2, p)
		equal(t, "0 - 1", Sub(p, 0, 1), p-1, p)
		equal(t, "0 - (p - 1)", Sub(p, 0, p-1), 1, p)
		equal(t, "a - a", Sub(p, p-1, p-1), 0, p)
		equal(t, "-0", Neg(p, 0), 0, p)
		equal(t, "-1", Neg(p, 1), p-1, p)
		equal(t, "0 times 0", Mul(p, 0, 0), 0, p)
		equal(t, "0 times p - 1", Mul(p, 0, p-1), 0, p)
		equal(t, "1 times p - 1", Mul(p, 1, p-1), p-1, p)
		equal(t, "the greatest product", Mul(p, p-1, p-1), 1, p)
		equal(t, "2 times (p + 1) / 2", Mul(p, 2, (p+1)/2), 1, p)
	}
}

func TestPow(t *testing.T) { // P1.2
	for _, p := range primes {
		for _, a := range elements(p, 20) {
			for _, n := range numbers(p) {
				want := new(big.Int).Exp(bigOf(a), bigOf(n), bigOf(p)).Uint64()
				equal(t, "Pow", Pow(p, a, n), want, p, a, n)
			}
		}
	}
}

func TestPowByRepeatedMultiplication(t *testing.T) { // P1.2
	for _, p := range primes {
		for _, a := range elements(p, 5) {
			power := uint64(1)
			for n := range uint64(70) {
				equal(t, "Pow", Pow(p, a, n), power, p, a, n)
				power = residue(new(big.Int).Mul(bigOf(power), bigOf(a)), p)
			}
		}
	}
}

func TestPowOfZero(t *testing.T) { // P1.2
	for _, p := range primes {
		for _, a := range elements(p, 5) {
			equal(t, "a to the power of 0", Pow(p, a, 0), 1, p, a)
		}
		equal(t, "0 to the power of 0", Pow(p, 0, 0), 1, p)
		for _, n := range numbers(p) {
			if n > 0 {
				equal(t, "0 to a positive power", Pow(p, 0, n), 0, p, n)
			}
		}
	}
}

func TestInverse(t *testing.T) { // P1.3
	for _, p := range primes {
		for _, a := range elements(p, 60) {
			inverse, errno := Inverse(p, a)
			if a == 0 {
				equal(t, "the inverse of 0", inverse, 0, p, a)
				sameErrno(t, "Inverse of 0", errno, api.ErrZero, p, a)
				continue
			}
			equal(t, "Inverse", inverse, new(big.Int).ModInverse(bigOf(a), bigOf(p)).Uint64(), p, a)
			sameErrno(t, "Inverse", errno, api.OK, p, a)
		}
	}
}

// rootByDefinition returns the smaller square root of a, if there is one, from the library's modular square root.
func rootByDefinition(p, a uint64) (uint64, bool) {
	root := new(big.Int).ModSqrt(bigOf(a), bigOf(p))
	if root == nil {
		return 0, false
	}
	r := root.Uint64()
	if r > (p-1)/2 {
		r = p - r
	}
	return r, true
}

func TestSqrt(t *testing.T) { // P1.3
	for _, p := range primes {
		for _, a := range elements(p, 100) {
			want, square := rootByDefinition(p, a)
			root, errno := Sqrt(p, a)
			equal(t, "Sqrt", root, want, p, a)
			if square {
				sameErrno(t, "Sqrt of a square", errno, api.OK, p, a)
			} else {
				sameErrno(t, "Sqrt of an element that is not a square", errno, api.ErrZero, p, a)
			}
		}
	}
}

func TestSqrtOfAllSquares(t *testing.T) { // P1.3
	for _, p := range smallPrimes {
		root := map[uint64]uint64{}
		for r := range (p + 1) / 2 {
			root[r*r%p] = r
		}
		for a := range p {
			got, errno := Sqrt(p, a)
			want, square := root[a]
			equal(t, "Sqrt", got, want, p, a)
			if (errno == api.OK) != square || (errno == api.ErrZero) == square {
				t.Errorf("Sqrt(%d, %d) has error %d", p, a, errno)
			}
		}
	}
}

func TestEdgesOfSqrt(t *testing.T) { // P1.3
	for _, p := range primes {
		// The greatest root that may be returned is (p - 1) / 2.
		half := (p - 1) / 2
		for _, r := range []uint64{0, 1, 2, 3, half - 1, half} {
			got, errno := Sqrt(p, residue(new(big.Int).Mul(bigOf(r), bigOf(r)), p))
			equal(t, "Sqrt of a square of a known root", got, r, p, r)
			sameErrno(t, "Sqrt of a square of a known root", errno, api.OK, p, r)
		}
		got, errno := Sqrt(p, p-1)
		equal(t, "Sqrt of -1", got, 0, p)
		sameErrno(t, "Sqrt of -1", errno, api.ErrZero, p)
	}
}

func TestFieldAxioms(t *testing.T) { // P1.4
	for _, p := range primes {
		list := elements(p, 12)
		for _, a := range list {
			equal(t, "a + 0", Add(p, a, 0), a, p, a)
			equal(t, "a + -a", Add(p, a, Neg(p, a)), 0, p, a)
			equal(t, "1 a", Mul(p, 1, a), a, p, a)
			if inverse, errno := Inverse(p, a); a != 0 && (errno != api.OK || Mul(p, a, inverse) != 1) {
				t.Errorf("%d has no inverse modulo %d", a, p)
			}
			for _, b := range list {
				equal(t, "a + b", Add(p, a, b), Add(p, b, a), p, a, b)
				equal(t, "a b", Mul(p, a, b), Mul(p, b, a), p, a, b)
				equal(t, "(a - b) + b", Add(p, Sub(p, a, b), b), a, p, a, b)
				for _, c := range list {
					equal(t, "(a + b) + c", Add(p, Add(p, a, b), c), Add(p, a, Add(p, b, c)), p, a, b, c)
					equal(t, "(a b) c", Mul(p, Mul(p, a, b), c), Mul(p, a, Mul(p, b, c)), p, a, b, c)
					equal(t, "a (b + c)", Mul(p, a, Add(p, b, c)), Add(p, Mul(p, a, b), Mul(p, a, c)), p, a, b, c)
				}
			}
		}
	}
}

func TestResultsAreElements(t *testing.T) { // the section 'Functions'
	for _, p := range primes {
		list := elements(p, 20)
		check := func(what string, got uint64) {
			if got >= p {
				t.Errorf("%s: %d is not an element of the field of %d", what, got, p)
			}
		}
		for _, a := range list {
			inverse, _ := Inverse(p, a)
			root, _ := Sqrt(p, a)
			check("Neg", Neg(p, a))
			check("Inverse", inverse)
			check("Sqrt", root)
			for _, b := range list {
				check("Add", Add(p, a, b))
				check("Sub", Sub(p, a, b))
				check("Mul", Mul(p, a, b))
			}
			for _, n := range numbers(p) {
				check("Pow", Pow(p, a, n))
				check("Reduce", Reduce(p, n))
			}
		}
	}
}

func TestFermat(t *testing.T) { // P1.4
	for _, p := range primes {
		for _, a := range elements(p, 60) {
			equal(t, "a to the power of p", Pow(p, a, p), a, p, a)
			if a != 0 {
				equal(t, "a to the power of p - 1", Pow(p, a, p-1), 1, p, a)
			}
		}
		equal(t, "0 to the power of p - 1", Pow(p, 0, p-1), 0, p)
	}
}

func TestOneOfAAndMinusAIsASquare(t *testing.T) { // P1.4
	for _, p := range primes {
		for _, a := range elements(p, 100) {
			if a == 0 {
				continue
			}
			_, errno := Sqrt(p, a)
			_, opposite := Sqrt(p, Neg(p, a))
			if (errno == api.OK) == (opposite == api.OK) {
				t.Errorf("modulo %d, not exactly one of %d and its negation is a square", p, a)
			}
		}
	}
}

func TestHalfOfTheElementsAreSquares(t *testing.T) { // P1.4
	for _, p := range append(smallPrimes, 8191) {
		squares := uint64(0)
		for a := uint64(1); a < p; a++ {
			if _, errno := Sqrt(p, a); errno == api.OK {
				squares++
			}
		}
		equal(t, "the number of squares", squares, (p-1)/2, p)
	}
}

func TestRootOfAProductOfSquares(t *testing.T) { // P1.4
	for _, p := range primes {
		list := elements(p, 30)
		for _, a := range list {
			for _, b := range list {
				first, errno := Sqrt(p, a)
				second, other := Sqrt(p, b)
				if errno != api.OK || other != api.OK {
					continue
				}
				root, errno := Sqrt(p, Mul(p, a, b))
				sameErrno(t, "Sqrt of a product of squares", errno, api.OK, p, a, b)
				product := Mul(p, first, second)
				if root != product && root != Neg(p, product) {
					t.Errorf("modulo %d, the root of %d times %d is not the product of their roots", p, a, b)
				}
			}
		}
	}
}

func TestExamples(t *testing.T) {
	equal(t, "20 times 20 modulo 31", Mul(31, 20, 20), 28)
	inverse, errno := Inverse(31, 2)
	equal(t, "the inverse of 2 modulo 31", inverse, 16)
	sameErrno(t, "the inverse of 2 modulo 31", errno, api.OK)
	root, errno := Sqrt(31, 2)
	equal(t, "the square root of 2 modulo 31", root, 8)
	sameErrno(t, "the square root of 2 modulo 31", errno, api.OK)
	root, errno = Sqrt(31, 3)
	equal(t, "the square root of 3 modulo 31", root, 0)
	sameErrno(t, "the square root of 3 modulo 31", errno, api.ErrZero)
}

func TestOtherArgumentsEndWithoutPanic(t *testing.T) {
	// Nothing is promised of these answers but that there is one.
	odd := []uint64{0, 1, 2, 3, 30, 32, 1 << 61, 1 << 63, 1<<64 - 1}
	for _, p := range append(odd, primes...) {
		for _, a := range odd {
			Neg(p, a)
			Reduce(p, a)
			Inverse(p, a)
			Sqrt(p, a)
			for _, b := range odd {
				Add(p, a, b)
				Sub(p, a, b)
				Mul(p, a, b)
				Pow(p, a, b)
			}
		}
	}
}
