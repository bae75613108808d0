package interpolate

import (
	"math"
	"math/bits"
	"slices"
	"testing"

	"privity/api"
)

var primes = []uint64{31, 127, 8191, 131071, 524287, 2147483647, 2305843009213693951}

// sampler yields a fixed sequence of words, so that every run tests the same cases.
type sampler struct{ state uint64 }

func (s *sampler) word() uint64 {
	s.state += 0x9e3779b97f4a7c15
	z := s.state
	z = (z ^ z>>30) * 0xbf58476d1ce4e5b9
	z = (z ^ z>>27) * 0x94d049bb133111eb
	return z ^ z>>31
}

func (s *sampler) elements(p uint64, count int) []uint64 {
	list := make([]uint64, count)
	for i := range list {
		list[i] = s.word() % p
	}
	return list
}

// distinct returns count different elements of the field of p in no particular order.
func (s *sampler) distinct(p uint64, count int) []uint64 {
	var list []uint64
	for len(list) < count {
		if x := s.word() % p; !slices.Contains(list, x) {
			list = append(list, x)
		}
	}
	return list
}

// upTo returns the numbers below n.
func upTo(n uint64) []uint64 {
	list := make([]uint64, n)
	for i := range list {
		list[i] = uint64(i)
	}
	return list
}

// reversed returns the list in the opposite order.
func reversed(list []uint64) []uint64 {
	list = slices.Clone(list)
	slices.Reverse(list)
	return list
}

// abscissaLists returns lists of different elements of the field of p: the empty list, the edges, descending lists and samples.
func abscissaLists(p uint64) [][]uint64 {
	lists := [][]uint64{
		nil, {}, {0}, {1}, {5}, {p - 1}, {0, 1}, {1, 0}, {0, p - 1}, {p - 1, 0}, {1, 2}, {p - 1, p - 2},
		{1, 2, 3}, {3, 2, 1}, {0, 1, 2}, {2, 0, 1}, {p - 1, 0, 1}, {p - 1, p - 2, p - 3, 2, 1, 0},
		{0, (p - 1) / 2, (p + 1) / 2, p - 1}, upTo(13), reversed(upTo(14)[1:]),
	}
	s := sampler{p}
	for _, count := range []int{1, 2, 3, 4, 5, 6, 9, 13, 20, 28} {
		list := s.distinct(p, count)
		slices.Sort(list)
		lists = append(lists, s.distinct(p, count), list, reversed(list))
	}
	if p <= 127 {
		lists = append(lists, upTo(p), reversed(upTo(p)))
	}
	return lists
}

// pairsModulo31 returns all lists of two different elements of the field of 31.
func pairsModulo31() [][]uint64 {
	var pairs [][]uint64
	for n := range uint64(31 * 31) {
		if n%31 != n/31 {
			pairs = append(pairs, []uint64{n % 31, n / 31})
		}
	}
	return pairs
}

// valueLists returns the values that the polynomials are to take at the elements of xs.
func valueLists(p uint64, xs []uint64) [][]uint64 {
	s := sampler{p + uint64(len(xs))}
	lists := [][]uint64{s.elements(p, len(xs)), s.elements(p, len(xs))}
	// Equal values, 0 among them, and values of polynomials of every smaller degree, so that the result is shorter than the list.
	for _, value := range []uint64{0, 1, p - 1} {
		lists = append(lists, slices.Repeat([]uint64{value}, len(xs)))
	}
	for length := range min(len(xs), 8) {
		lists = append(lists, valuesBy(p, s.elements(p, length), xs))
	}
	// A single value other than 0, which is a multiple of a basis polynomial.
	for i := range min(len(xs), 8) {
		single := make([]uint64, len(xs))
		single[i] = p - 2
		lists = append(lists, single)
	}
	return lists
}

// ats returns elements at which to evaluate: the edges, some of xs, and samples.
func ats(p uint64, xs []uint64) []uint64 {
	s := sampler{p + 9}
	list := append([]uint64{0, 1, 2, (p - 1) / 2, p - 2, p - 1}, s.elements(p, 3)...)
	return append(list, xs[:min(len(xs), 6)]...)
}

// plus and times compute modulo p without the code under test and the packages that it calls.
func plus(p, a, b uint64) uint64 {
	low, high := bits.Add64(a, b, 0)
	return bits.Rem64(high, low, p)
}

func times(p, a, b uint64) uint64 {
	high, low := bits.Mul64(a, b)
	return bits.Rem64(high, low, p)
}

// valueBy returns f(x) as the sum of its terms.
func valueBy(p uint64, f []uint64, x uint64) uint64 {
	value, power := uint64(0), uint64(1)
	for _, c := range f {
		value = plus(p, value, times(p, c, power))
		power = times(p, power, x)
	}
	return value
}

// valuesBy returns the value of f at each of the elements.
func valuesBy(p uint64, f, xs []uint64) []uint64 {
	values := make([]uint64, len(xs))
	for i, x := range xs {
		values[i] = valueBy(p, f, x)
	}
	return values
}

// combined returns the sum of k times a and l times b, element by element; what one of the lists lacks is 0.
func combined(p, k uint64, a []uint64, l uint64, b []uint64) []uint64 {
	sum := make([]uint64, max(len(a), len(b)))
	for i, c := range a {
		sum[i] = times(p, k, c)
	}
	for i, c := range b {
		sum[i] = plus(p, sum[i], times(p, l, c))
	}
	return sum
}

// trimmed returns f without trailing zeros.
func trimmed(f []uint64) []uint64 {
	length := 0
	for i, c := range f {
		if c != 0 {
			length = i + 1
		}
	}
	return f[:length]
}

// points returns the points with the given abscissas and values.
func points(xs, values []uint64) []api.Point {
	pts := make([]api.Point, len(xs))
	for i, x := range xs {
		pts[i] = api.Point{X: x, Y: values[i]}
	}
	return pts
}

// through returns the polynomial through the points and reports an error.
func through(t *testing.T, p uint64, xs, values []uint64) []uint64 {
	t.Helper()
	f, errno := Polynomial(p, points(xs, values))
	if errno != api.OK {
		t.Fatalf("Polynomial modulo %d through %d with values %d: error %d", p, xs, values, errno)
	}
	return f
}

// weightsOf returns the weights and reports an error.
func weightsOf(t *testing.T, p uint64, xs []uint64, at uint64) []uint64 {
	t.Helper()
	weights, errno := LagrangeWeights(p, xs, at)
	if errno != api.OK {
		t.Fatalf("LagrangeWeights modulo %d of %d at %d: error %d", p, xs, at, errno)
	}
	return weights
}

// same reports a wrong list.
func same(t *testing.T, what string, got, want []uint64, args ...any) {
	t.Helper()
	if !slices.Equal(got, want) {
		t.Errorf("%s %d: got %d, want %d", what, args, got, want)
	}
}

// checkPolynomial reports a polynomial that lacks one of the properties which together only one polynomial has.
func checkPolynomial(t *testing.T, p uint64, xs, values []uint64) {
	t.Helper()
	f := through(t, p, xs, values)
	if len(f) > len(xs) {
		t.Errorf("modulo %d, the polynomial %d through %d points is too long", p, f, len(xs))
	}
	for _, c := range f {
		if c >= p {
			t.Errorf("modulo %d, %d is no polynomial", p, f)
		}
	}
	same(t, "a polynomial without trailing zeros", f, trimmed(f), p, xs, values)
	same(t, "the values", valuesBy(p, f, xs), values, p, xs)
}

// checkWeights reports weights that do not give the value at an element for each power of x below x^len(xs), and so for each polynomial of that degree; no other weights do.
func checkWeights(t *testing.T, p uint64, xs []uint64, at uint64) {
	t.Helper()
	weights := weightsOf(t, p, xs, at)
	if len(weights) != len(xs) {
		t.Fatalf("modulo %d, there are %d weights of %d elements", p, len(weights), len(xs))
	}
	terms, want := slices.Clone(weights), uint64(1)
	for k := range xs {
		sum := uint64(0)
		for i, x := range xs {
			sum = plus(p, sum, terms[i])
			terms[i] = times(p, terms[i], x)
		}
		if sum != want {
			t.Errorf("modulo %d, the weights %d of %d give x^%d at %d the value %d, want %d", p, weights, xs, k, at, sum, want)
		}
		want = times(p, want, at)
	}
	for _, w := range weights {
		if w >= p {
			t.Errorf("modulo %d, the weights %d are no elements", p, weights)
		}
	}
}

func TestPolynomial(t *testing.T) { // P5.1
	for _, p := range primes {
		for _, xs := range abscissaLists(p) {
			for _, values := range valueLists(p, xs) {
				checkPolynomial(t, p, xs, values)
			}
		}
	}
}

func TestAllPolynomialsThroughTwoPoints(t *testing.T) { // P5.1
	for _, xs := range pairsModulo31() {
		for y := range uint64(31 * 31) {
			checkPolynomial(t, 31, xs, []uint64{y % 31, y / 31})
		}
	}
}

func TestAllQuadraticPolynomials(t *testing.T) { // P5.1
	for _, xs := range [][]uint64{{0, 1, 2}, {30, 4, 17}, {29, 0, 30, 12}} {
		for n := range uint64(31 * 31 * 31) {
			f := []uint64{n % 31, n / 31 % 31, n / 31 / 31}
			same(t, "Polynomial", through(t, 31, xs, valuesBy(31, f, xs)), trimmed(f), xs)
		}
	}
}

func TestKnownPolynomials(t *testing.T) { // P5.1
	for _, p := range primes {
		half := (p + 1) / 2 // the inverse of 2
		same(t, "no points", through(t, p, nil, nil), nil, p)
		same(t, "no points", through(t, p, []uint64{}, nil), nil, p)
		for _, x := range ats(p, nil) {
			same(t, "one point", through(t, p, []uint64{x}, []uint64{7}), []uint64{7}, p, x)
			same(t, "one point", through(t, p, []uint64{x}, []uint64{p - 1}), []uint64{p - 1}, p, x)
			same(t, "one point with value 0", through(t, p, []uint64{x}, []uint64{0}), nil, p, x)
		}
		same(t, "equal values", through(t, p, []uint64{1, 2, 3}, []uint64{4, 4, 4}), []uint64{4}, p)
		same(t, "values 0", through(t, p, []uint64{1, 2, 3}, []uint64{0, 0, 0}), nil, p)
		same(t, "x", through(t, p, []uint64{p - 1, 1}, []uint64{p - 1, 1}), []uint64{0, 1}, p)
		same(t, "x", through(t, p, []uint64{9, 0, 4, p - 1}, []uint64{9, 0, 4, p - 1}), []uint64{0, 1}, p)
		same(t, "-x", through(t, p, []uint64{0, p - 1}, []uint64{0, 1}), []uint64{0, p - 1}, p)
		same(t, "x^2 + 1", through(t, p, []uint64{0, 1, 2}, []uint64{1, 2, 5}), []uint64{1, 0, 1}, p)
		same(t, "x^2 + 1", through(t, p, []uint64{2, 1, 0, p - 1, p - 2}, []uint64{5, 2, 1, 2, 5}), []uint64{1, 0, 1}, p)
		same(t, "2 - x", through(t, p, []uint64{1, 2}, []uint64{1, 0}), []uint64{2, p - 1}, p)
		same(t, "x / 2", through(t, p, []uint64{2, 0}, []uint64{1, 0}), []uint64{0, half}, p)
		same(t, "x (x - 1) / 2", through(t, p, []uint64{0, 1, 2}, []uint64{0, 0, 1}), []uint64{0, p - half, half}, p)
	}
}

func TestPolynomialThroughAllElements(t *testing.T) { // P5.1
	// The values of x^p are those of x, and only x^(p-1) has the degree p - 1 that p points allow.
	for _, p := range []uint64{31, 127} {
		all := upTo(p)
		same(t, "x", through(t, p, all, all), []uint64{0, 1}, p)
		ones := slices.Repeat([]uint64{1}, int(p))
		ones[0] = 0
		same(t, "x^(p-1)", through(t, p, all, ones), append(make([]uint64, p-1), 1), p)
	}
}

func TestManyPoints(t *testing.T) { // P5.1, P5.2
	for _, p := range primes[2:] {
		s := sampler{p + 3}
		xs := s.distinct(p, 250)
		f := append(s.elements(p, 249), 1)
		same(t, "Polynomial through many points", through(t, p, xs, valuesBy(p, f, xs)), f, p)
		same(t, "a short polynomial through many points", through(t, p, xs, valuesBy(p, f[:40], xs)), trimmed(f[:40]), p)
		checkWeights(t, p, xs, 0)
		checkWeights(t, p, xs, s.word()%p)
	}
}

// repeatedPlaces are the places, in a list of the given length, of two elements that are made equal: at the start, in the middle, at the end and apart.
func repeatedPlaces(length int) [][2]int {
	if length < 2 {
		return nil
	}
	return [][2]int{{0, 1}, {length/2 - 1, length / 2}, {length - 2, length - 1}, {0, length - 1}}
}

// repetitions calls check with lists of elements that contain one of them twice, at the given places.
func repetitions(check func(p uint64, xs []uint64, place [2]int)) {
	for _, p := range primes {
		for _, xs := range abscissaLists(p) {
			for _, place := range repeatedPlaces(len(xs)) {
				for _, from := range []int{0, 1} {
					repeated := slices.Clone(xs)
					repeated[place[1-from]] = repeated[place[from]]
					check(p, repeated, place)
				}
			}
		}
	}
}

func TestPointsWithTheSameX(t *testing.T) { // P5.1
	refused := func(p uint64, pts []api.Point) {
		t.Helper()
		if f, errno := Polynomial(p, pts); errno != api.ErrArg || len(f) != 0 {
			t.Errorf("Polynomial(%d, %d): got %d and error %d, want ErrArg", p, pts, f, errno)
		}
	}
	repetitions(func(p uint64, xs []uint64, place [2]int) {
		for _, values := range valueLists(p, xs)[:4] {
			refused(p, points(xs, values))
			values[place[0]] = values[place[1]]
			refused(p, points(xs, values))
			values[place[0]] = (values[place[1]] + 1) % p
			refused(p, points(xs, values))
		}
	})
	for _, p := range primes {
		refused(p, []api.Point{{X: 0, Y: 0}, {X: 0, Y: 0}})
		refused(p, []api.Point{{X: 0, Y: 0}, {X: 0, Y: 1}})
		refused(p, []api.Point{{X: p - 1, Y: 1}, {X: p - 1, Y: p - 1}})
		refused(p, []api.Point{{X: 1, Y: 2}, {X: 2, Y: 2}, {X: 1, Y: 2}})
		refused(p, slices.Repeat([]api.Point{{X: 3, Y: 4}}, 5))
		// One more than the field has elements, for the smallest field.
		refused(p, points(append(upTo(31), 0), append(upTo(31), 1)))
	}
}

func TestLagrangeWeights(t *testing.T) { // P5.2
	for _, p := range primes {
		for _, xs := range abscissaLists(p) {
			for _, at := range ats(p, xs) {
				checkWeights(t, p, xs, at)
			}
		}
	}
}

func TestAllWeightsOfTwoElements(t *testing.T) { // P5.2
	for _, xs := range pairsModulo31() {
		for _, at := range upTo(31) {
			checkWeights(t, 31, xs, at)
		}
	}
}

func TestWeightsGiveTheValue(t *testing.T) { // P5.2
	for _, p := range primes {
		s := sampler{p + 4}
		for _, xs := range abscissaLists(p) {
			for _, at := range ats(p, xs) {
				f := s.elements(p, len(xs))
				value := uint64(0)
				for i, w := range weightsOf(t, p, xs, at) {
					value = plus(p, value, times(p, w, valueBy(p, f, xs[i])))
				}
				if want := valueBy(p, f, at); value != want {
					t.Errorf("modulo %d, the weights of %d give %d at %d the value %d, want %d", p, xs, f, at, value, want)
				}
			}
		}
	}
}

func TestKnownWeights(t *testing.T) { // P5.2
	for _, p := range primes {
		for _, at := range ats(p, nil) {
			same(t, "the weights of no elements", weightsOf(t, p, nil, at), nil, p, at)
			same(t, "the weights of no elements", weightsOf(t, p, []uint64{}, at), nil, p, at)
			for _, x := range ats(p, nil) {
				same(t, "the weight of one element", weightsOf(t, p, []uint64{x}, at), []uint64{1}, p, x, at)
			}
		}
		same(t, "the weights of 1 and 2 at 0", weightsOf(t, p, []uint64{1, 2}, 0), []uint64{2, p - 1}, p)
		same(t, "the weights of 2 and 1 at 0", weightsOf(t, p, []uint64{2, 1}, 0), []uint64{p - 1, 2}, p)
		same(t, "the weights of 1, 2 and 3 at 0", weightsOf(t, p, []uint64{1, 2, 3}, 0), []uint64{3, p - 3, 1}, p)
		same(t, "the weights of 3, 1 and 2 at 0", weightsOf(t, p, []uint64{3, 1, 2}, 0), []uint64{1, 3, p - 3}, p)
		same(t, "the weights of 0 and 1 at -1", weightsOf(t, p, []uint64{0, 1}, p-1), []uint64{2, p - 1}, p)
		same(t, "the weights of -1 and 0 at 1", weightsOf(t, p, []uint64{p - 1, 0}, 1), []uint64{p - 1, 2}, p)
		for _, xs := range abscissaLists(p) {
			for i, x := range xs {
				single := make([]uint64, len(xs))
				single[i] = 1
				same(t, "the weights at one of the elements", weightsOf(t, p, xs, x), single, p, xs, x)
			}
		}
	}
}

func TestWeightsOfDuplicates(t *testing.T) { // P5.2
	refused := func(p uint64, xs []uint64, at uint64) {
		t.Helper()
		if weights, errno := LagrangeWeights(p, xs, at); errno != api.ErrArg || len(weights) != 0 {
			t.Errorf("LagrangeWeights(%d, %d, %d): got %d and error %d, want ErrArg", p, xs, at, weights, errno)
		}
	}
	repetitions(func(p uint64, xs []uint64, place [2]int) {
		// The element that is repeated, another one, and one that need not be in the list.
		for _, at := range []uint64{xs[place[0]], xs[len(xs)/2], 0, p - 1} {
			refused(p, xs, at)
		}
	})
	for _, p := range primes {
		for _, at := range ats(p, nil) {
			refused(p, []uint64{0, 0}, at)
			refused(p, []uint64{p - 1, p - 1}, at)
			refused(p, []uint64{1, 2, 1}, at)
			refused(p, slices.Repeat([]uint64{3}, 5), at)
			refused(p, append(upTo(31), 0), at)
		}
	}
}

// checkMatrix reports a wrong matrix, compared with powers that are made by repeated multiplication.
func checkMatrix(t *testing.T, p uint64, xs []uint64, cols int) {
	t.Helper()
	m := Vandermonde(p, xs, cols)
	if len(m) != len(xs) {
		t.Fatalf("Vandermonde(%d, %d, %d) has %d rows", p, xs, cols, len(m))
	}
	for i, x := range xs {
		var row []uint64
		for power := uint64(1); len(row) < cols; power = times(p, power, x) {
			row = append(row, power)
		}
		same(t, "a row", m[i], row, p, x, cols)
	}
}

func TestVandermonde(t *testing.T) { // P5.3
	for _, p := range primes {
		for _, xs := range abscissaLists(p) {
			for _, cols := range []int{math.MinInt, math.MinInt + 1, math.MinInt32, -2, -1, 0, 1, 2, 3, 13, 40} {
				checkMatrix(t, p, xs, cols)
				checkMatrix(t, p, append(xs[:len(xs):len(xs)], xs...), cols)
			}
		}
		checkMatrix(t, p, slices.Repeat([]uint64{p - 2}, 3), 300)
	}
	for _, p := range []uint64{31, 127} {
		// More columns than the powers of an element take different values.
		checkMatrix(t, p, upTo(p), 2*int(p))
	}
}

func TestKnownMatrices(t *testing.T) { // P5.3
	matrix := func(p uint64, xs []uint64, cols int, want ...[]uint64) {
		t.Helper()
		if got := Vandermonde(p, xs, cols); !slices.EqualFunc(got, want, slices.Equal) {
			t.Errorf("Vandermonde(%d, %d, %d) is %d, want %d", p, xs, cols, got, want)
		}
	}
	for _, p := range primes {
		for _, cols := range []int{math.MinInt, -1, 0, 1, 5, math.MaxInt} {
			matrix(p, nil, cols)
			matrix(p, []uint64{}, cols)
		}
		for _, cols := range []int{math.MinInt, math.MinInt + 1, -1, 0} {
			matrix(p, []uint64{0}, cols, nil)
			matrix(p, []uint64{5, 0, p - 1}, cols, nil, nil, nil)
		}
		matrix(p, []uint64{0, 1, 9, p - 1}, 1, []uint64{1}, []uint64{1}, []uint64{1}, []uint64{1})
		matrix(p, []uint64{0, 1, 2, p - 1}, 4, []uint64{1, 0, 0, 0}, []uint64{1, 1, 1, 1}, []uint64{1, 2, 4, 8}, []uint64{1, p - 1, 1, p - 1})
		matrix(p, []uint64{3, 3, 0, 3, 0}, 3, []uint64{1, 3, 9}, []uint64{1, 3, 9}, []uint64{1, 0, 0}, []uint64{1, 3, 9}, []uint64{1, 0, 0})
	}
	matrix(31, []uint64{2}, 7, []uint64{1, 2, 4, 8, 16, 1, 2})
	matrix(2305843009213693951, []uint64{1 << 60}, 3, []uint64{1, 1 << 60, 1 << 59})
}

func TestPolynomialsThatAgreeAreEqual(t *testing.T) { // P5.4
	for _, p := range primes {
		s := sampler{p + 5}
		for _, xs := range abscissaLists(p) {
			f := s.elements(p, len(xs))
			values := valuesBy(p, f, xs)
			same(t, "the polynomial that has the values of f", through(t, p, xs, values), trimmed(f), p, xs)
			// The same points in another order, and as many other points of the same polynomial.
			same(t, "the polynomial through the reversed points", through(t, p, reversed(xs), reversed(values)), trimmed(f), p, xs)
			others := s.distinct(p, len(xs))
			same(t, "the polynomial through other points", through(t, p, others, valuesBy(p, f, others)), trimmed(f), p, others)
			// A polynomial that differs in one value is another one.
			if len(xs) > 0 {
				values[len(xs)/2] = (values[len(xs)/2] + 1) % p
				if g := through(t, p, xs, values); slices.Equal(g, trimmed(f)) {
					t.Errorf("modulo %d, %d has different values at %d", p, g, xs)
				}
			}
		}
	}
}

func TestWeightsSumToOne(t *testing.T) { // P5.4
	for _, p := range primes {
		for _, xs := range abscissaLists(p) {
			for _, at := range ats(p, xs) {
				sum := uint64(0)
				for _, w := range weightsOf(t, p, xs, at) {
					sum = plus(p, sum, w)
				}
				if len(xs) > 0 && sum != 1 {
					t.Errorf("modulo %d, the weights of %d at %d sum to %d", p, xs, at, sum)
				}
			}
		}
	}
}

func TestInterpolationIsLinear(t *testing.T) { // P5.4
	for _, p := range primes {
		s := sampler{p + 6}
		for _, xs := range abscissaLists(p) {
			lists := valueLists(p, xs)
			for i, a := range lists {
				b := lists[(i+1)%len(lists)]
				f, g := through(t, p, xs, a), through(t, p, xs, b)
				for _, k := range []uint64{0, 1, p - 1, s.word() % p} {
					for _, l := range []uint64{0, 1, p - 1, s.word() % p} {
						sum := through(t, p, xs, combined(p, k, a, l, b))
						same(t, "the polynomial of a combination", sum, trimmed(combined(p, k, f, l, g)), p, xs, a, b, k, l)
					}
				}
			}
		}
	}
}

func TestExamples(t *testing.T) {
	same(t, "the polynomial through (1, 2) and (2, 3)", through(t, 31, []uint64{1, 2}, []uint64{2, 3}), []uint64{1, 1})
	same(t, "the weights of 1 and 2 at 0", weightsOf(t, 31, []uint64{1, 2}, 0), []uint64{2, 30})
}

// spare is how much capacity the lists of withSpare have behind their elements.
const spare = 4

// withSpare returns the list with spare capacity, which holds elements of its own, and all of its memory.
func withSpare[E any](list []E, element E) ([]E, []E) {
	memory := append(slices.Clone(list), slices.Repeat([]E{element}, spare)...)
	return memory[:len(list):len(memory)], memory
}

// overwrite fills the list and its spare capacity.
func overwrite(list []uint64) {
	for i := range list[:cap(list)] {
		list[:cap(list)][i] = 99
	}
}

func TestArgumentsStayAsTheyAre(t *testing.T) { // rule 5 of the document
	check := func(p uint64, xs []uint64) {
		values := valueLists(p, xs)[0]
		pts, memoryOfPoints := withSpare(points(xs, values), api.Point{X: 71, Y: 72})
		xs, memoryOfElements := withSpare(xs, 73)
		keptPoints, keptElements := slices.Clone(memoryOfPoints), slices.Clone(memoryOfElements)
		f, _ := Polynomial(p, pts)
		weights, _ := LagrangeWeights(p, xs, 3)
		rows := Vandermonde(p, xs, 5)
		// The results are memory of their own, too.
		for _, list := range append(rows, f, weights) {
			overwrite(list)
		}
		if !slices.Equal(memoryOfPoints, keptPoints) || !slices.Equal(memoryOfElements, keptElements) {
			t.Errorf("the arguments became %d and %d, were %d and %d", memoryOfPoints, memoryOfElements, keptPoints, keptElements)
		}
	}
	for _, p := range primes {
		for _, xs := range abscissaLists(p) {
			check(p, xs)
		}
	}
	repetitions(func(p uint64, xs []uint64, _ [2]int) { check(p, xs) })
}

func TestRowsShareNoMemory(t *testing.T) {
	for _, cols := range []int{1, 2, 5} {
		rows := Vandermonde(31, []uint64{2, 2, 3, 0}, cols)
		want := Vandermonde(31, []uint64{2, 2, 3, 0}, cols)
		for i, row := range rows {
			same(t, "a row after a change of the rows before it", row, want[i], cols, i)
			overwrite(row)
		}
	}
}

func TestOtherArgumentsEndWithoutPanic(t *testing.T) {
	// Nothing is promised of these answers but that there is one.
	words := []uint64{0, 1, 30, 31, 32, 62, 1 << 61, 1 << 63, math.MaxUint64}
	for _, p := range []uint64{0, 1, 2, 30, 31, 33, 1<<61 - 1, 1 << 61, 1 << 63, math.MaxUint64} {
		for i, x := range words {
			for j, y := range words {
				xs := []uint64{x, y, words[(i+j)%len(words)]}
				for length := range len(xs) + 1 {
					Polynomial(p, points(xs[:length], []uint64{y, x, y}))
					LagrangeWeights(p, xs[:length], y)
					Vandermonde(p, xs[:length], 4)
				}
			}
		}
	}
}
