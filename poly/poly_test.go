package poly

import (
	"math"
	"math/big"
	"slices"
	"testing"

	"privity/api"
)

var primes = []uint64{31, 127, 8191, 131071, 524287, 2147483647, 2305843009213693951}

// sampler yields a fixed sequence of words, so that every run tests the same cases.
type sampler struct{ state uint64 }

func (s *sampler) word() uint64 {
	s.state += 0x9e3779b97f4a7c15
	z := s.state
	z = (z ^ z>>30) * 0xbf58476d1ce4e5b9
	z = (z ^ z>>27) * 0x94d049bb133111eb
	return z ^ z>>31
}

func (s *sampler) polynomial(p uint64, length int) []uint64 {
	f := make([]uint64, length)
	for i := range f {
		f[i] = s.word() % p
	}
	return f
}

// elements returns the edges of the field of p and some samples.
func elements(p uint64) []uint64 {
	s := sampler{p}
	list := []uint64{0, 1, 2, 3, (p - 1) / 2, (p + 1) / 2, p - 2, p - 1}
	return append(list, s.polynomial(p, 4)...)
}

// shortLists returns all lists of at most the given length whose words are among those given, the empty list first.
func shortLists(length int, words ...uint64) [][]uint64 {
	lists := [][]uint64{nil}
	for first := 0; len(lists[first]) < length; first++ {
		for _, word := range words {
			lists = append(lists, append(slices.Clone(lists[first]), word))
		}
	}
	return lists
}

// polynomials returns polynomials over the field of p, trimmed and not: all short ones of edge coefficients, and samples that also end in zeros.
func polynomials(p uint64) [][]uint64 {
	list := append(shortLists(3, 0, 1, p-1), []uint64{}, make([]uint64, 40))
	s := sampler{p + 1}
	for _, length := range []int{1, 2, 3, 4, 5, 8, 13, 30} {
		f := s.polynomial(p, length)
		list = append(list, f, slices.Concat(f, []uint64{0}), slices.Concat(f, make([]uint64, 5)), slices.Concat(make([]uint64, 5), f))
		// Sums and differences with these cancel the leading coefficient, or all coefficients.
		negated := slices.Clone(f)
		for i, c := range negated {
			negated[i] = (p - c) % p
		}
		other := slices.Clone(f)
		other[0] = (other[0] + 1) % p
		list = append(list, negated, other, slices.Repeat([]uint64{p - 1}, length))
	}
	return list
}

// pairs calls check with all pairs of test polynomials over each supported prime.
func pairs(check func(p uint64, a, b []uint64)) {
	for _, p := range primes {
		list := polynomials(p)
		for _, a := range list {
			for _, b := range list {
				check(p, a, b)
			}
		}
	}
}

func bigOf(n uint64) *big.Int { return new(big.Int).SetUint64(n) }

// trimmedBy returns the trimmed representation as the chapter defines it, without the code under test.
func trimmedBy(f []uint64) []uint64 {
	length := 0
	for i, c := range f {
		if c != 0 {
			length = i + 1
		}
	}
	return slices.Clone(f[:length])
}

// reduced returns the trimmed polynomial over the field of p whose coefficients are congruent to those given.
func reduced(p uint64, coefficients []*big.Int) []uint64 {
	f := make([]uint64, len(coefficients))
	for i, c := range coefficients {
		f[i] = new(big.Int).Mod(c, bigOf(p)).Uint64()
	}
	return trimmedBy(f)
}

func zeros(length int) []*big.Int {
	list := make([]*big.Int, length)
	for i := range list {
		list[i] = new(big.Int)
	}
	return list
}

// sumBy returns a + sign b by the library's big integers.
func sumBy(p uint64, a, b []uint64, sign int64) []uint64 {
	total := zeros(max(len(a), len(b)))
	for i, c := range a {
		total[i].Add(total[i], bigOf(c))
	}
	for i, c := range b {
		total[i].Add(total[i], new(big.Int).Mul(big.NewInt(sign), bigOf(c)))
	}
	return reduced(p, total)
}

// productBy returns the product by the library's big integers.
func productBy(p uint64, a, b []uint64) []uint64 {
	total := zeros(len(a) + len(b))
	for i, x := range a {
		for j, y := range b {
			total[i+j].Add(total[i+j], new(big.Int).Mul(bigOf(x), bigOf(y)))
		}
	}
	return reduced(p, total)
}

// valueBy returns f(x) as the sum of its terms, by the library's big integers.
func valueBy(p uint64, f []uint64, x uint64) uint64 {
	total := new(big.Int)
	for i, c := range f {
		power := new(big.Int).Exp(bigOf(x), big.NewInt(int64(i)), bigOf(p))
		total.Add(total, power.Mul(power, bigOf(c)))
	}
	return total.Mod(total, bigOf(p)).Uint64()
}

// same reports a wrong polynomial; want is trimmed, so a polynomial that is not trimmed is reported, too.
func same(t *testing.T, what string, got, want []uint64, args ...any) {
	t.Helper()
	if !slices.Equal(got, want) {
		t.Errorf("%s %d: got %d, want %d", what, args, got, want)
	}
}

func sameWord(t *testing.T, what string, got, want uint64, args ...any) {
	t.Helper()
	if got != want {
		t.Errorf("%s %d: got %d, want %d", what, args, got, want)
	}
}

// checkDivision reports a wrong quotient or remainder.
func checkDivision(t *testing.T, p uint64, a, b, quotient, remainder []uint64) {
	t.Helper()
	q, r, errno := DivMod(p, a, b)
	same(t, "the quotient", q, quotient, p, a, b)
	same(t, "the remainder", r, remainder, p, a, b)
	if errno != api.OK {
		t.Errorf("DivMod(%d, %d, %d) has error %d", p, a, b, errno)
	}
}

// words are any words, whether or not they are elements of some field.
var words = []uint64{0, 1, 30, 31, 1 << 32, 1 << 63, math.MaxUint64}

func TestTrim(t *testing.T) { // P4.1
	for _, f := range shortLists(4, words...) {
		same(t, "Trim", Trim(f), trimmedBy(f), f)
	}
	same(t, "Trim", Trim([]uint64{1, 0, 2, 0, 0}), []uint64{1, 0, 2})
	same(t, "Trim", Trim([]uint64{0, 0, math.MaxUint64}), []uint64{0, 0, math.MaxUint64})
	same(t, "Trim of nil", Trim(nil), nil)
	same(t, "Trim of the empty slice", Trim([]uint64{}), nil)
	for length := range 100 {
		same(t, "Trim of zeros", Trim(make([]uint64, length)), nil, length)
		f := make([]uint64, 100)
		f[length] = 1 << 63
		same(t, "Trim of a power of x", Trim(f), f[:length+1], length)
	}
}

func TestDegree(t *testing.T) { // P4.1
	check := func(f []uint64, want int) {
		t.Helper()
		if got := Degree(f); got != want {
			t.Errorf("Degree(%d) is %d, want %d", f, got, want)
		}
	}
	for _, f := range shortLists(4, words...) {
		check(f, len(trimmedBy(f))-1)
	}
	check(nil, -1)
	check([]uint64{}, -1)
	check([]uint64{0}, -1)
	check([]uint64{0, 0, 0}, -1)
	check([]uint64{5}, 0)
	check([]uint64{5, 0}, 0)
	check([]uint64{0, math.MaxUint64}, 1)
	check([]uint64{0, 0, 1 << 63, 0, 0}, 2)
	for length := range 100 {
		check(make([]uint64, length), -1)
		check(append(make([]uint64, length), 1, 0), length)
	}
}

func TestCoefficient(t *testing.T) { // P4.1
	outside := []int{math.MinInt, math.MinInt + 1, math.MinInt32, -2, -1, math.MaxInt32, math.MaxInt - 1, math.MaxInt}
	for _, f := range append(shortLists(4, words...), make([]uint64, 100)) {
		for i, c := range f {
			sameWord(t, "Coefficient", Coefficient(f, i), c, f, i)
			sameWord(t, "Coefficient at a negative index", Coefficient(f, -i-1), 0, f, i)
		}
		for _, i := range append(outside, len(f), len(f)+1) {
			sameWord(t, "Coefficient outside", Coefficient(f, i), 0, f, i)
		}
	}
	// What lies behind the last coefficient in memory is no coefficient.
	sameWord(t, "Coefficient in the spare capacity", Coefficient([]uint64{4, 5, 6}[:2], 2), 0)
}

func TestEval(t *testing.T) { // P4.2
	for _, p := range primes {
		for _, f := range polynomials(p) {
			for _, x := range elements(p) {
				sameWord(t, "Eval", Eval(p, f, x), valueBy(p, f, x), p, f, x)
			}
		}
		for _, x := range elements(p) {
			sameWord(t, "Eval of 0", Eval(p, nil, x), 0, p, x)
			sameWord(t, "Eval of 0", Eval(p, []uint64{0, 0}, x), 0, p, x)
			sameWord(t, "Eval of x", Eval(p, []uint64{0, 1}, x), x, p, x)
			for _, c := range elements(p) {
				sameWord(t, "Eval of a constant", Eval(p, []uint64{c}, x), c, p, x)
				sameWord(t, "Eval of a constant", Eval(p, []uint64{c, 0, 0}, x), c, p, x)
			}
		}
	}
	sameWord(t, "Eval", Eval(31, []uint64{1, 2, 3}, 5), 24)
}

func TestAddAndSub(t *testing.T) { // P4.2
	pairs(func(p uint64, a, b []uint64) {
		same(t, "Add", Add(p, a, b), sumBy(p, a, b, 1), p, a, b)
		same(t, "Sub", Sub(p, a, b), sumBy(p, a, b, -1), p, a, b)
	})
}

func TestCancellation(t *testing.T) { // P4.2
	for _, p := range primes {
		same(t, "a sum of smaller degree", Add(p, []uint64{1, 2, p - 1}, []uint64{3, 0, 1}), []uint64{4, 2}, p)
		same(t, "a sum of degree 0", Add(p, []uint64{1, 2, p - 1}, []uint64{3, p - 2, 1}), []uint64{4}, p)
		same(t, "a sum of 0", Add(p, []uint64{1, 2, p - 1}, []uint64{p - 1, p - 2, 1}), nil, p)
		same(t, "a difference of smaller degree", Sub(p, []uint64{1, 2, 5}, []uint64{3, 1, 5}), []uint64{p - 2, 1}, p)
		same(t, "a difference of degree 0", Sub(p, []uint64{1, 2, 5}, []uint64{3, 2, 5, 0}), []uint64{p - 2}, p)
		for _, f := range polynomials(p) {
			same(t, "f - f", Sub(p, f, f), nil, p, f)
			same(t, "f + 0", Add(p, f, nil), trimmedBy(f), p, f)
			same(t, "0 + f", Add(p, []uint64{0, 0, 0}, f), trimmedBy(f), p, f)
			same(t, "f - 0", Sub(p, f, make([]uint64, 50)), trimmedBy(f), p, f)
			same(t, "0 - f + f", Add(p, Sub(p, nil, f), f), nil, p, f)
		}
	}
}

func TestMul(t *testing.T) { // P4.2
	pairs(func(p uint64, a, b []uint64) {
		same(t, "Mul", Mul(p, a, b), productBy(p, a, b), p, a, b)
	})
	for _, p := range primes {
		for _, f := range polynomials(p) {
			for _, zero := range [][]uint64{nil, {}, {0}, {0, 0, 0}} {
				same(t, "f times 0", Mul(p, f, zero), nil, p, f)
				same(t, "0 times f", Mul(p, zero, f), nil, p, f)
			}
			same(t, "f times 1", Mul(p, f, []uint64{1, 0}), trimmedBy(f), p, f)
			same(t, "1 times f", Mul(p, []uint64{1}, f), trimmedBy(f), p, f)
		}
	}
	same(t, "Mul", Mul(31, []uint64{1, 2}, []uint64{3, 4}), []uint64{3, 10, 8})
}

func TestScale(t *testing.T) { // P4.2
	for _, p := range primes {
		for _, f := range polynomials(p) {
			for _, k := range elements(p) {
				same(t, "Scale", Scale(p, k, f), productBy(p, []uint64{k}, f), p, k, f)
			}
			same(t, "Scale by 0", Scale(p, 0, f), nil, p, f)
			same(t, "Scale by 1", Scale(p, 1, f), trimmedBy(f), p, f)
			same(t, "Scale by -1", Scale(p, p-1, f), sumBy(p, nil, f, -1), p, f)
		}
	}
	same(t, "Scale", Scale(31, 2, []uint64{16, 1}), []uint64{1, 2})
}

func TestDivMod(t *testing.T) { // P4.3
	// The quotient and the remainder are unique, so it is enough that they have the two properties of the definition.
	pairs(func(p uint64, a, b []uint64) {
		if len(trimmedBy(b)) == 0 {
			return
		}
		q, r, errno := DivMod(p, a, b)
		if errno != api.OK {
			t.Errorf("DivMod(%d, %d, %d) has error %d", p, a, b, errno)
		}
		same(t, "q b + r", sumBy(p, productBy(p, q, b), r, 1), trimmedBy(a), p, a, b)
		if len(r) >= len(trimmedBy(b)) {
			t.Errorf("DivMod(%d, %d, %d) has the remainder %d, which is too great", p, a, b, r)
		}
		same(t, "that the quotient is trimmed", q, trimmedBy(q), p, a, b)
		same(t, "that the remainder is trimmed", r, trimmedBy(r), p, a, b)
	})
}

func TestDivModOfKnownParts(t *testing.T) { // P4.3
	for _, p := range primes {
		s := sampler{p + 2}
		for range 300 {
			b := append(s.polynomial(p, int(s.word()%6)), 1+s.word()%(p-1))
			q := trimmedBy(s.polynomial(p, int(s.word()%6)))
			r := trimmedBy(s.polynomial(p, int(s.word()%uint64(len(b)))))
			a := sumBy(p, productBy(p, q, b), r, 1)
			checkDivision(t, p, a, b, q, r)
			// The representation of the operands makes no difference.
			checkDivision(t, p, append(a, 0, 0), append(b, 0), q, r)
		}
	}
}

func TestEdgesOfDivMod(t *testing.T) { // P4.3
	for _, p := range primes {
		half := (p + 1) / 2 // the inverse of 2
		for _, zero := range [][]uint64{nil, {}, {0}, {0, 0, 0}} {
			checkDivision(t, p, zero, []uint64{1}, nil, nil)
			checkDivision(t, p, zero, []uint64{5, 7, 0}, nil, nil)
		}
		// A dividend of smaller degree, by its degree and not by its length.
		checkDivision(t, p, []uint64{3, 4}, []uint64{1, 1, 1}, nil, []uint64{3, 4})
		checkDivision(t, p, []uint64{3, 4, 0, 0, 0}, []uint64{1, 1, 1}, nil, []uint64{3, 4})
		checkDivision(t, p, []uint64{9}, []uint64{0, 1}, nil, []uint64{9})
		checkDivision(t, p, []uint64{3, 4}, append(make([]uint64, 20), 1), nil, []uint64{3, 4})
		// A divisor that is a constant.
		checkDivision(t, p, []uint64{2, 4, 1}, []uint64{1}, []uint64{2, 4, 1}, nil)
		checkDivision(t, p, []uint64{2, 4, 1}, []uint64{2}, []uint64{1, 2, half}, nil)
		checkDivision(t, p, []uint64{2, 4, 1, 0}, []uint64{p - 1, 0}, []uint64{p - 2, p - 4, p - 1}, nil)
		checkDivision(t, p, []uint64{6}, []uint64{2}, []uint64{3}, nil)
		// A divisor whose leading coefficient is not 1, trimmed and not.
		checkDivision(t, p, []uint64{3, 10, 8}, []uint64{1, 2}, []uint64{3, 4}, nil)
		checkDivision(t, p, []uint64{3, 10, 8, 0}, []uint64{1, 2, 0, 0}, []uint64{3, 4}, nil)
		checkDivision(t, p, []uint64{5, 10, 8}, []uint64{1, 2, 0}, []uint64{3, 4}, []uint64{2})
		checkDivision(t, p, []uint64{0, 1}, []uint64{1, 2}, []uint64{half}, []uint64{p - half})
		checkDivision(t, p, []uint64{7, 0, 0, 1}, []uint64{0, 0, 1}, []uint64{0, 1}, []uint64{7})
		checkDivision(t, p, []uint64{1, 2, 3}, []uint64{1, 2, 3}, []uint64{1}, nil)
		checkDivision(t, p, []uint64{2, 2, 3}, []uint64{1, 2, 3, 0}, []uint64{1}, []uint64{1})
	}
}

func TestDivisionByZero(t *testing.T) { // P4.3
	for _, p := range primes {
		for _, a := range polynomials(p) {
			for _, zero := range [][]uint64{nil, {}, {0}, {0, 0}, make([]uint64, 50)} {
				q, r, errno := DivMod(p, a, zero)
				if len(q) != 0 || len(r) != 0 || errno != api.ErrZero {
					t.Errorf("DivMod(%d, %d, %d): got %d, %d and error %d, want ErrZero", p, a, zero, q, r, errno)
				}
			}
		}
	}
}

func TestValuesOfSumsAndProducts(t *testing.T) { // P4.4
	residue := func(p uint64, n *big.Int) uint64 { return n.Mod(n, bigOf(p)).Uint64() }
	for _, p := range primes {
		list := polynomials(p)
		for i, a := range list {
			for _, b := range list[i%7:] {
				x := elements(p)[(i+len(b))%12]
				atA, atB := Eval(p, a, x), Eval(p, b, x)
				sameWord(t, "the value of a sum", Eval(p, Add(p, a, b), x), residue(p, new(big.Int).Add(bigOf(atA), bigOf(atB))), p, a, b, x)
				sameWord(t, "the value of a difference", Eval(p, Sub(p, a, b), x), residue(p, new(big.Int).Sub(bigOf(atA), bigOf(atB))), p, a, b, x)
				sameWord(t, "the value of a product", Eval(p, Mul(p, a, b), x), residue(p, new(big.Int).Mul(bigOf(atA), bigOf(atB))), p, a, b, x)
			}
		}
	}
}

func TestRemainderIsTheValue(t *testing.T) { // P4.4
	for _, p := range primes {
		for _, f := range polynomials(p) {
			for _, c := range elements(p) {
				_, r, errno := DivMod(p, f, []uint64{(p - c) % p, 1})
				if errno != api.OK {
					t.Errorf("DivMod(%d, %d, x - %d) has error %d", p, f, c, errno)
				}
				same(t, "the remainder of a division by x - c", r, trimmedBy([]uint64{Eval(p, f, c)}), p, f, c)
			}
		}
	}
}

// zerosAmong returns those of the elements at which f is zero.
func zerosAmong(p uint64, f, elements []uint64) []uint64 {
	return slices.DeleteFunc(slices.Clone(elements), func(x uint64) bool { return Eval(p, f, x) != 0 })
}

func TestNumberOfZeros(t *testing.T) { // P4.4
	check := func(p uint64, f, elements []uint64) {
		if d := Degree(f); d >= 0 && len(zerosAmong(p, f, elements)) > d {
			t.Errorf("modulo %d, %d has degree %d and the zeros %d", p, f, d, zerosAmong(p, f, elements))
		}
	}
	all := make([]uint64, 127)
	for i := range all {
		all[i] = uint64(i)
	}
	for _, f := range shortLists(3, all[:31]...) {
		check(31, f, all[:31])
	}
	for _, p := range []uint64{31, 127} {
		for _, f := range polynomials(p) {
			check(p, f, all[:p])
		}
		// Polynomials that have as many zeros as their degree allows.
		f := append(make([]uint64, p), 1)
		f[1] = p - 1
		same(t, "the zeros of x^p - x", zerosAmong(p, f, all[:p]), all[:p], p)
		same(t, "the zeros of x^(p-1) - 1", zerosAmong(p, append([]uint64{p - 1}, f[2:]...), all[:p]), all[1:p], p)
	}
}

func TestZerosOfProductsOfLinearFactors(t *testing.T) { // P4.4
	for _, p := range primes {
		s := sampler{p + 3}
		points := append(elements(p), s.polynomial(p, 20)...)
		slices.Sort(points)
		points = slices.Compact(points)
		for count := range len(points) {
			f := []uint64{1}
			for _, c := range points[:count] {
				f = Mul(p, f, []uint64{(p - c) % p, 1})
			}
			if Degree(f) != count {
				t.Errorf("the product of %d linear factors has degree %d", count, Degree(f))
			}
			same(t, "the zeros of a product", zerosAmong(p, f, points), points[:count], p)
		}
	}
}

func TestExamples(t *testing.T) {
	product := Mul(31, []uint64{30, 1}, []uint64{1, 1})
	same(t, "(x + 30)(x + 1)", product, []uint64{30, 0, 1})
	checkDivision(t, 31, product, []uint64{1, 1}, []uint64{30, 1}, nil)
}

// withSpare returns f with spare capacity, and all of its memory.
func withSpare(f []uint64) ([]uint64, []uint64) {
	memory := append(slices.Clone(f), 71, 72, 73, 74)
	return memory[:len(f):len(memory)], memory
}

// calls returns, for each function, the polynomials that a call with these arguments returns.
func calls(p uint64, a, b []uint64) map[string][][]uint64 {
	Degree(a)
	Coefficient(a, 1)
	Eval(p, a, 3)
	q, r, _ := DivMod(p, a, b)
	return map[string][][]uint64{
		"Trim":       {Trim(a)},
		"Add":        {Add(p, a, b)},
		"Sub":        {Sub(p, a, b)},
		"Scale":      {Scale(p, 5, a)},
		"Scale by 1": {Scale(p, 1, a)},
		"Mul":        {Mul(p, a, b)},
		"DivMod":     {q, r},
	}
}

func TestArgumentsStayAsTheyAre(t *testing.T) { // rule 5 of the document
	for _, p := range []uint64{31, 2305843009213693951} {
		list := polynomials(p)
		for i, f := range list {
			for _, g := range list[i%5:] {
				a, memoryOfA := withSpare(f)
				b, memoryOfB := withSpare(g)
				keptA, keptB := slices.Clone(memoryOfA), slices.Clone(memoryOfB)
				calls(p, a, b)
				calls(p, a, a)
				if !slices.Equal(memoryOfA, keptA) || !slices.Equal(memoryOfB, keptB) {
					t.Fatalf("the arguments became %d and %d, were %d and %d", memoryOfA, memoryOfB, keptA, keptB)
				}
			}
		}
	}
}

func TestResultsShareNoMemory(t *testing.T) {
	overwrite := func(f []uint64) {
		for i := range f[:cap(f)] {
			f[:cap(f)][i] = 99
		}
	}
	for _, g := range [][]uint64{nil, {1}, {3, 1}, {0, 0, 1, 0}, {1, 2, 3, 4, 5, 6}} {
		a, memoryOfA := withSpare([]uint64{7, 8, 9, 0})
		b, memoryOfB := withSpare(g)
		keptA, keptB := slices.Clone(memoryOfA), slices.Clone(memoryOfB)
		for name, results := range calls(31, a, b) {
			last := slices.Clone(results[len(results)-1])
			for _, f := range results[:len(results)-1] {
				overwrite(f)
			}
			same(t, "the other result of "+name, results[len(results)-1], last)
			overwrite(results[len(results)-1])
			if !slices.Equal(memoryOfA, keptA) || !slices.Equal(memoryOfB, keptB) {
				t.Fatalf("a change of the result of %s changes the arguments", name)
			}
		}
	}
}

func TestOtherArgumentsEndWithoutPanic(t *testing.T) {
	// Nothing is promised of these answers but that there is one.
	lists := shortLists(3, 0, 1, 32, 1<<63, math.MaxUint64)
	for _, p := range []uint64{0, 1, 2, 30, 31, 1 << 61, 1<<61 - 1, 1 << 63, math.MaxUint64} {
		for _, a := range lists {
			for _, x := range words {
				Eval(p, a, x)
				Scale(p, x, a)
			}
			for _, b := range lists {
				Add(p, a, b)
				Sub(p, a, b)
				Mul(p, a, b)
				DivMod(p, a, b)
			}
		}
	}
}
