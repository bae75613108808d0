package shamir

import (
	"math"
	"math/bits"
	"slices"
	"sync"
	"testing"

	"privity/api"
)

var primes = []uint64{31, 127, 8191, 131071, 524287, 2147483647, 2305843009213693951}

// sampler yields a fixed sequence of words, so that every run tests the same cases.
type sampler struct{ state uint64 }

func (s *sampler) word() uint64 {
	s.state += 0x9e3779b97f4a7c15
	z := s.state
	z = (z ^ z>>30) * 0xbf58476d1ce4e5b9
	z = (z ^ z>>27) * 0x94d049bb133111eb
	return z ^ z>>31
}

// below returns a number below n.
func (s *sampler) below(n int) int { return int(s.word() % uint64(n)) }

func (s *sampler) elements(p uint64, count int) []uint64 {
	list := make([]uint64, count)
	for i := range list {
		list[i] = s.word() % p
	}
	return list
}

// abscissas returns different elements other than 0 in some order.
func (s *sampler) abscissas(p uint64, count int) []uint64 {
	var list []uint64
	for len(list) < count {
		if x := 1 + s.word()%(p-1); !slices.Contains(list, x) {
			list = append(list, x)
		}
	}
	return list
}

// shuffled returns the elements of the list in some order.
func shuffled[E any](s *sampler, list []E) []E {
	list = slices.Clone(list)
	for i := range list {
		j := i + s.below(len(list)-i)
		list[i], list[j] = list[j], list[i]
	}
	return list
}

// sharing returns a sharing whose rows have the given number of words.
func (s *sampler) sharing(p uint64, rows, words int) api.Sharing {
	list := make(api.Sharing, rows)
	for i := range list {
		list[i] = s.elements(p, words)
	}
	return list
}

// plus, minus, times and inverseOf compute modulo p without the code under test and the packages that it calls.
func plus(p, a, b uint64) uint64 {
	low, high := bits.Add64(a, b, 0)
	return bits.Rem64(high, low, p)
}

func minus(p, a, b uint64) uint64 { return plus(p, a, p-b) }

func times(p, a, b uint64) uint64 {
	high, low := bits.Mul64(a, b)
	return bits.Rem64(high, low, p)
}

// inverseOf returns the inverse of a by Fermat's theorem.
func inverseOf(p, a uint64) uint64 {
	power := uint64(1)
	for e := p - 2; e > 0; e >>= 1 {
		if e&1 == 1 {
			power = times(p, power, a)
		}
		a = times(p, a, a)
	}
	return power
}

// valueAt returns f(x) as the sum of its terms.
func valueAt(p uint64, f []uint64, x uint64) uint64 {
	sum, power := uint64(0), uint64(1)
	for _, c := range f {
		sum = plus(p, sum, times(p, c, power))
		power = times(p, power, x)
	}
	return sum
}

// firstValues returns the values of f at 1, ..., n.
func firstValues(p uint64, f []uint64, n int) []uint64 {
	var values []uint64
	for x := 1; x <= n; x++ {
		values = append(values, valueAt(p, f, uint64(x)))
	}
	return values
}

// onGraph returns the points of f at the given xs.
func onGraph(p uint64, f, xs []uint64) []api.Point {
	pts := make([]api.Point, len(xs))
	for i, x := range xs {
		pts[i] = api.Point{X: x, Y: valueAt(p, f, x)}
	}
	return pts
}

// pointsOf returns the points with the given values at 1, 2, ...
func pointsOf(ys ...uint64) []api.Point {
	pts := make([]api.Point, len(ys))
	for i, y := range ys {
		pts[i] = api.Point{X: uint64(i + 1), Y: y}
	}
	return pts
}

// productWith returns f times x - c.
func productWith(p uint64, f []uint64, c uint64) []uint64 {
	result := make([]uint64, len(f)+1)
	for i, coefficient := range f {
		result[i] = minus(p, result[i], times(p, coefficient, c))
		result[i+1] = plus(p, result[i+1], coefficient)
	}
	return result
}

// sumOf returns the sum of two polynomials.
func sumOf(p uint64, a, b []uint64) []uint64 {
	sum := make([]uint64, max(len(a), len(b)))
	for i, c := range a {
		sum[i] = plus(p, sum[i], c)
	}
	for i, c := range b {
		sum[i] = plus(p, sum[i], c)
	}
	return sum
}

// multipleOf returns k times each word.
func multipleOf(p, k uint64, words []uint64) []uint64 {
	list := make([]uint64, len(words))
	for i, word := range words {
		list[i] = times(p, k, word)
	}
	return list
}

// vanishing returns k times the product of x - c over the elements c of xs.
func vanishing(p, k uint64, xs []uint64) []uint64 {
	product := []uint64{k}
	for _, c := range xs {
		product = productWith(p, product, c)
	}
	return product
}

// through returns the polynomial through the points, found by adding for each of them a multiple of the product that is 0 at those before it. It has as many coefficients as there are points.
func through(p uint64, pts []api.Point) []uint64 {
	var f []uint64
	product := []uint64{1}
	for _, pt := range pts {
		k := times(p, minus(p, pt.Y, valueAt(p, f, pt.X)), inverseOf(p, valueAt(p, product, pt.X)))
		f = sumOf(p, f, multipleOf(p, k, product))
		product = productWith(p, product, pt.X)
	}
	return f
}

// degree returns the degree of f, -1 for the zero polynomial.
func degree(f []uint64) int {
	d := -1
	for i, c := range f {
		if c != 0 {
			d = i
		}
	}
	return d
}

// eachList calls use with all lists of the given length whose elements are among those given.
func eachList(elements []uint64, length int, use func(list []uint64)) {
	if length == 0 {
		use(nil)
		return
	}
	eachList(elements, length-1, func(list []uint64) {
		for _, element := range elements {
			use(append(slices.Clone(list), element))
		}
	})
}

// eachChoice calls use with all choices of count of the elements.
func eachChoice[E any](list []E, count int, use func(chosen []E)) {
	for set := range uint(1) << len(list) {
		if bits.OnesCount(set) != count {
			continue
		}
		var chosen []E
		for rest := set; rest != 0; rest &= rest - 1 {
			chosen = append(chosen, list[bits.TrailingZeros(rest)])
		}
		use(chosen)
	}
}

// upTo returns the numbers from first to last.
func upTo(first, last uint64) []uint64 {
	var list []uint64
	for x := first; x <= last; x++ {
		list = append(list, x)
	}
	return list
}

// edges returns the smallest and the greatest elements of the field and some others.
func edges(p uint64) []uint64 { return []uint64{0, 1, 2, 7, p / 2, p/2 + 1, p - 2, p - 1} }

// sameRows compares the rows one by one; empty rows may be nil or not.
func sameRows(a, b [][]uint64) bool {
	return slices.EqualFunc(a, b, func(x, y []uint64) bool { return slices.Equal(x, y) })
}

// checkShares reports a wrong result of Shares.
func checkShares(t *testing.T, p uint64, n int, q []uint64) {
	t.Helper()
	if got, want := Shares(p, n, q), firstValues(p, q, n); !slices.Equal(got, want) {
		t.Errorf("Shares(%d, %d, %d): got %d, want %d", p, n, q, got, want)
	}
}

func TestExamples(t *testing.T) { // P9.1, P9.3
	if got := Shares(31, 3, []uint64{5, 1}); !slices.Equal(got, []uint64{6, 7, 8}) {
		t.Errorf("the shares of 5 + x: got %d", got)
	}
	q, errno := FitSecret(31, 1, []api.Point{{X: 1, Y: 6}}, 9)
	if errno != api.OK || !slices.Equal(q, []uint64{9, 28}) {
		t.Errorf("FitSecret: got %d and error %d", q, errno)
	}
}

func TestShares(t *testing.T) { // P9.1
	for _, p := range primes {
		s := sampler{p}
		for n := range 14 {
			for size := range 8 {
				for range 3 {
					checkShares(t, p, n, s.elements(p, size))
				}
			}
		}
	}
}

func TestSharesOfKnownPolynomials(t *testing.T) { // P9.1
	for _, p := range primes {
		for _, c := range []struct{ q, want []uint64 }{
			{nil, []uint64{0, 0, 0, 0}},
			{[]uint64{}, []uint64{0, 0, 0, 0}},
			{[]uint64{0}, []uint64{0, 0, 0, 0}},
			{[]uint64{0, 0, 0}, []uint64{0, 0, 0, 0}},
			{[]uint64{7}, []uint64{7, 7, 7, 7}},
			{[]uint64{p - 1}, []uint64{p - 1, p - 1, p - 1, p - 1}},
			{[]uint64{0, 1}, []uint64{1, 2, 3, 4}},
			{[]uint64{0, 0, 1}, []uint64{1, 4, 9, 16}},
			{[]uint64{p - 1, 1}, []uint64{0, 1, 2, 3}},
			{[]uint64{p - 1, p - 1}, []uint64{p - 2, p - 3, p - 4, p - 5}},
			{[]uint64{2, p - 3, 1}, []uint64{0, 0, 2, 6}},
			{[]uint64{5, 1, 0}, []uint64{6, 7, 8, 9}},
			{[]uint64{5, 1, 0, 0, 0, 0, 0}, []uint64{6, 7, 8, 9}},
		} {
			for n := range 5 {
				if got := Shares(p, n, c.q); !slices.Equal(got, c.want[:n]) {
					t.Errorf("Shares(%d, %d, %d): got %d, want %d", p, n, c.q, got, c.want[:n])
				}
			}
		}
	}
}

func TestSharesOfAllLines(t *testing.T) { // P9.1
	eachList(upTo(0, 30), 2, func(q []uint64) {
		for _, n := range []int{1, 4, 30} {
			checkShares(t, 31, n, q)
		}
	})
}

func TestSharesOfNobody(t *testing.T) { // P9.1
	for _, p := range primes {
		for _, n := range []int{0, -1, -2, -31, -1 << 31, -1<<31 - 1, -1 << 32, -1<<32 + 1, -1 << 62, math.MinInt + 1, math.MinInt} {
			for _, q := range [][]uint64{nil, {0}, {1}, {5, 1}, {p - 1, 0, p - 1}} {
				if got := Shares(p, n, q); len(got) != 0 {
					t.Errorf("Shares(%d, %d, %d): got %d", p, n, q, got)
				}
			}
		}
	}
}

func TestSharesForManyParties(t *testing.T) { // P9.1
	for _, p := range primes {
		s := sampler{p + 1}
		for _, n := range []int{14, 29, 30, 125, 126, 8189, 8190, 20000} {
			if uint64(n) < p {
				checkShares(t, p, n, s.elements(p, 3))
				checkShares(t, p, n, []uint64{p - 1})
			}
		}
	}
	// Every element but 0 is a zero of x^30 - 1.
	long := append(append([]uint64{30}, make([]uint64, 29)...), 1)
	if got := Shares(31, 30, long); !slices.Equal(got, make([]uint64, 30)) {
		t.Errorf("the shares of x^30 - 1: got %d", got)
	}
}

// reconstructs reports a result of Reconstruct that is not the given secret and error.
func reconstructs(t *testing.T, p uint64, bound int, pts []api.Point, want uint64, wanted api.Errno) {
	t.Helper()
	if secret, errno := Reconstruct(p, bound, pts); secret != want || errno != wanted {
		t.Errorf("Reconstruct(%d, %d, %d): got %d and error %d, want %d and error %d", p, bound, pts, secret, errno, want, wanted)
	}
}

// areValid reports whether the points are shares of different parties, by the definition.
func areValid(pts []api.Point) bool {
	for i, a := range pts {
		if a.X == 0 {
			return false
		}
		for _, b := range pts[:i] {
			if a.X == b.X {
				return false
			}
		}
	}
	return true
}

// checkReconstruct compares the result of Reconstruct with the polynomial through all points.
func checkReconstruct(t *testing.T, p uint64, bound int, pts []api.Point) {
	t.Helper()
	// A negative t converts to a number that is much too large.
	if uint64(bound) >= uint64(len(pts)) || !areValid(pts) {
		reconstructs(t, p, bound, pts, 0, api.ErrArg)
		return
	}
	f := through(p, pts)
	if degree(f) > bound {
		reconstructs(t, p, bound, pts, 0, api.ErrTooManyErrors)
	} else {
		reconstructs(t, p, bound, pts, f[0], api.OK)
	}
}

func TestReconstructKnownSecrets(t *testing.T) { // P9.2
	for _, p := range primes {
		for _, c := range []struct {
			t     int
			pts   []api.Point
			want  uint64
			errno api.Errno
		}{
			{1, pointsOf(6, 7), 5, api.OK},
			{1, pointsOf(6, 7, 8, 9), 5, api.OK},
			{1, []api.Point{{X: 4, Y: 9}, {X: 1, Y: 6}, {X: 3, Y: 8}}, 5, api.OK},
			{2, pointsOf(6, 7, 8), 5, api.OK},
			{3, pointsOf(6, 7, 8, 9), 5, api.OK},
			{0, pointsOf(6, 7, 8), 0, api.ErrTooManyErrors},
			{0, pointsOf(6), 6, api.OK},
			{0, pointsOf(6, 6, 6, 6), 6, api.OK},
			{0, pointsOf(6, 6, 6, 5), 0, api.ErrTooManyErrors},
			{0, pointsOf(0, 0), 0, api.OK},
			{0, []api.Point{{X: p - 1, Y: p - 1}}, p - 1, api.OK},
			{2, pointsOf(0, 0, 0, 0), 0, api.OK},
			{2, pointsOf(1, 4, 9, 16), 0, api.OK},
			{2, pointsOf(2, 5, 10), 1, api.OK},
			{1, pointsOf(1, 4, 9), 0, api.ErrTooManyErrors},
			{1, pointsOf(1, 4), p - 2, api.OK},
			{1, []api.Point{{X: p - 1, Y: p - 1}, {X: 1, Y: 1}}, 0, api.OK},
			{1, []api.Point{{X: p - 1, Y: 0}, {X: 1, Y: 2}}, 1, api.OK},
			{1, []api.Point{{X: p - 1, Y: 2}, {X: p - 2, Y: 4}, {X: 1, Y: p - 2}}, 0, api.OK},
			{3, pointsOf(1, 8, 27), 0, api.ErrArg},
		} {
			reconstructs(t, p, c.t, c.pts, c.want, c.errno)
		}
	}
}

func TestReconstruct(t *testing.T) { // P9.2
	for _, p := range primes {
		s := sampler{p + 2}
		for bound := range 7 {
			for count := bound + 1; count <= bound+5; count++ {
				// The polynomial may have a smaller degree than the bound, or be 0.
				for size := range bound + 2 {
					f := s.elements(p, size)
					pts := onGraph(p, f, s.abscissas(p, count))
					reconstructs(t, p, bound, pts, valueAt(p, f, 0), api.OK)
				}
			}
		}
	}
}

func TestReconstructFromAllValues(t *testing.T) { // P9.2
	for _, p := range []uint64{31, 8191, 2305843009213693951} {
		for _, xs := range [][]uint64{{1, 2, 3, 4}, {p - 1, 5, 1, p / 2}} {
			for count := range 5 {
				eachList([]uint64{0, 1, 2, p - 1}, count, func(ys []uint64) {
					pts := make([]api.Point, count)
					for i, y := range ys {
						pts[i] = api.Point{X: xs[i], Y: y}
					}
					for bound := -2; bound <= count+1; bound++ {
						checkReconstruct(t, p, bound, pts)
					}
				})
			}
		}
	}
}

func TestReconstructFromAllTriples(t *testing.T) { // P9.2
	eachList(upTo(0, 30), 3, func(ys []uint64) {
		pts := []api.Point{{X: 7, Y: ys[0]}, {X: 30, Y: ys[1]}, {X: 2, Y: ys[2]}}
		checkReconstruct(t, 31, 0, pts)
		checkReconstruct(t, 31, 1, pts)
		checkReconstruct(t, 31, 2, pts)
	})
}

func TestReconstructSamples(t *testing.T) { // P9.2
	for _, p := range primes {
		s := sampler{p + 3}
		for range 1000 {
			count := s.below(9)
			// Small values and abscissas, so that equal and fitting ones are common.
			limit := min(p, uint64(2+s.below(9)))
			pts := make([]api.Point, count)
			for i := range pts {
				pts[i] = api.Point{X: s.word() % 16, Y: s.word() % limit}
			}
			checkReconstruct(t, p, s.below(count+3)-1, pts)
		}
	}
}

func TestReconstructInEveryOrder(t *testing.T) { // P9.2
	for _, p := range primes {
		s := sampler{p + 4}
		for bound := range 4 {
			f := s.elements(p, bound+1)
			pts := onGraph(p, f, s.abscissas(p, 4))
			wrong := slices.Clone(pts)
			wrong[2].Y = minus(p, wrong[2].Y, 1)
			eachList([]uint64{0, 1, 2, 3}, 4, func(order []uint64) {
				if len(slices.Compact(slices.Sorted(slices.Values(order)))) != 4 {
					return
				}
				var moved, altered []api.Point
				for _, i := range order {
					moved, altered = append(moved, pts[i]), append(altered, wrong[i])
				}
				reconstructs(t, p, bound, moved, f[0], api.OK)
				checkReconstruct(t, p, bound, altered)
			})
		}
	}
}

func TestReconstructWithWrongShare(t *testing.T) { // P9.2
	for _, p := range primes {
		s := sampler{p + 5}
		for bound := range 6 {
			for count := bound + 2; count <= bound+5; count++ {
				for _, f := range [][]uint64{s.elements(p, bound+1), {s.word() % p}, nil} {
					pts := onGraph(p, f, s.abscissas(p, count))
					for i := range pts {
						for _, d := range []uint64{1, p - 1, 1 + s.word()%(p-1)} {
							altered := slices.Clone(pts)
							altered[i].Y = plus(p, altered[i].Y, d)
							reconstructs(t, p, bound, altered, 0, api.ErrTooManyErrors)
						}
					}
				}
			}
		}
	}
}

func TestReconstructTooHighDegree(t *testing.T) { // P9.2
	for _, p := range primes {
		s := sampler{p + 6}
		for bound := range 6 {
			for count := bound + 2; count <= bound+4; count++ {
				f := append(s.elements(p, bound+1), 1+s.word()%(p-1))
				pts := onGraph(p, f, s.abscissas(p, count))
				reconstructs(t, p, bound, pts, 0, api.ErrTooManyErrors)
				reconstructs(t, p, bound+1, pts, f[0], api.OK)
				// The multiple of the vanishing polynomial is 0 at all points but the last.
				pts = onGraph(p, vanishing(p, 1, []uint64{2, 3, 4, 5, 6, 7, 8}[:bound+1]), upTo(2, uint64(bound)+3))
				reconstructs(t, p, bound, pts, 0, api.ErrTooManyErrors)
				reconstructs(t, p, bound, pts[:bound+1], 0, api.OK)
			}
		}
	}
}

func TestReconstructBounds(t *testing.T) { // P9.2
	bounds := []int{math.MinInt, math.MinInt + 1, -1 << 62, -1 << 32, -1 << 31, -5, -2, -1, 1 << 31, 1 << 32, 1<<32 + 1, 1 << 62, math.MaxInt - 1, math.MaxInt}
	for _, p := range primes {
		for count := range 6 {
			// All points lie on a line, so that only the bound is to blame.
			pts := onGraph(p, []uint64{5, 1}, upTo(1, uint64(count)))
			for _, bound := range bounds {
				reconstructs(t, p, bound, pts, 0, api.ErrArg)
			}
			for bound := count; bound <= count+3; bound++ {
				reconstructs(t, p, bound, pts, 0, api.ErrArg)
			}
			for bound := 1; bound < count; bound++ {
				reconstructs(t, p, bound, pts, 5, api.OK)
			}
		}
		for _, pts := range [][]api.Point{nil, {}} {
			reconstructs(t, p, 0, pts, 0, api.ErrArg)
			reconstructs(t, p, 1, pts, 0, api.ErrArg)
		}
	}
}

// doubled calls use with the points changed so that one has the X of another, once with the same Y and once with a different one.
func doubled(p uint64, pts []api.Point, use func(changed []api.Point)) {
	for i := range pts {
		for j := range pts {
			if i != j {
				changed := slices.Clone(pts)
				changed[i] = pts[j]
				use(changed)
				changed = slices.Clone(changed)
				changed[i].Y = plus(p, pts[j].Y, 1)
				use(changed)
			}
		}
	}
}

// withZero calls use with the points changed so that one has the X 0, with the given value and others.
func withZero(p, secret uint64, pts []api.Point, use func(changed []api.Point)) {
	for i := range pts {
		for _, y := range []uint64{secret, plus(p, secret, 1), 0, pts[i].Y} {
			changed := slices.Clone(pts)
			changed[i] = api.Point{X: 0, Y: y}
			use(changed)
		}
	}
}

func TestReconstructInvalidPoints(t *testing.T) { // P9.2
	for _, p := range primes {
		s := sampler{p + 7}
		for count := 1; count <= 6; count++ {
			f := s.elements(p, 2)
			pts := onGraph(p, f, s.abscissas(p, count))
			refuse := func(changed []api.Point) {
				for bound := -1; bound <= count; bound++ {
					reconstructs(t, p, bound, changed, 0, api.ErrArg)
				}
			}
			doubled(p, pts, refuse)
			withZero(p, f[0], pts, refuse)
		}
	}
}

func TestReconstructArgumentErrorStandsFirst(t *testing.T) { // P9.2
	for _, p := range primes {
		// No line passes through three of these points, so that ErrTooManyErrors would apply, too.
		pts := pointsOf(1, 4, 9, 16, 25)
		reconstructs(t, p, 1, pts, 0, api.ErrTooManyErrors)
		refuse := func(changed []api.Point) { reconstructs(t, p, 1, changed, 0, api.ErrArg) }
		refuse(append(slices.Clone(pts), pts[0]))
		refuse(append(slices.Clone(pts), pts[4]))
		refuse(append(slices.Clone(pts), api.Point{X: 5, Y: 7}))
		refuse(append(slices.Clone(pts), api.Point{X: 0, Y: 0}))
		refuse(append(slices.Clone(pts), api.Point{X: 0, Y: 9}))
		refuse(append([]api.Point{{X: 0, Y: 9}}, pts...))
		doubled(p, pts, refuse)
		withZero(p, 0, pts, refuse)
		reconstructs(t, p, -1, pts, 0, api.ErrArg)
		reconstructs(t, p, math.MinInt, pts, 0, api.ErrArg)
	}
}

func TestReconstructFromManyShares(t *testing.T) { // P9.2
	for _, p := range []uint64{31, 127} {
		s := sampler{p + 8}
		for bound := range int(p) - 1 {
			f := s.elements(p, bound+1)
			pts := onGraph(p, f, s.abscissas(p, int(p)-1))
			reconstructs(t, p, bound, pts, f[0], api.OK)
			reconstructs(t, p, bound, pts[:bound+1], f[0], api.OK)
		}
		reconstructs(t, p, int(p)-1, onGraph(p, nil, upTo(1, p-1)), 0, api.ErrArg)
	}
	for _, p := range primes[2:] {
		pts := onGraph(p, []uint64{7, 0, 5}, upTo(1, 8190))
		slices.Reverse(pts)
		reconstructs(t, p, 3, pts, 7, api.OK)
		pts[8189].Y = plus(p, pts[8189].Y, 1)
		reconstructs(t, p, 3, pts, 0, api.ErrTooManyErrors)
		reconstructs(t, p, 3, append(pts, pts[0]), 0, api.ErrArg)
	}
}

// withMissing returns the points and those that make the result of FitSecret unique, by the definition.
func withMissing(t int, pts []api.Point) []api.Point {
	all := slices.Clone(pts)
	for x := uint64(1); len(all) < t; x++ {
		if !slices.ContainsFunc(pts, func(pt api.Point) bool { return pt.X == x }) {
			all = append(all, api.Point{X: x, Y: 0})
		}
	}
	return all
}

// checkFit reports a result of FitSecret that lacks one of the properties which together only one list of coefficients has.
func checkFit(t *testing.T, p uint64, bound int, pts []api.Point, secret uint64) {
	t.Helper()
	q, errno := FitSecret(p, bound, pts, secret)
	if errno != api.OK || len(q) != bound+1 {
		t.Fatalf("FitSecret(%d, %d, %d, %d): got %d and error %d", p, bound, pts, secret, q, errno)
	}
	for _, c := range q {
		if c >= p {
			t.Errorf("FitSecret(%d, %d, %d, %d): got %d, which are no elements", p, bound, pts, secret, q)
		}
	}
	all := append(withMissing(bound, pts), api.Point{X: 0, Y: secret})
	for _, pt := range all {
		if valueAt(p, q, pt.X) != pt.Y {
			t.Errorf("FitSecret(%d, %d, %d, %d): got %d, which does not pass through %d", p, bound, pts, secret, q, pt)
		}
	}
}

// fits reports a result of FitSecret that is not the given one.
func fits(t *testing.T, p uint64, bound int, pts []api.Point, secret uint64, want []uint64) {
	t.Helper()
	q, errno := FitSecret(p, bound, pts, secret)
	if errno != api.OK || !slices.Equal(q, want) {
		t.Errorf("FitSecret(%d, %d, %d, %d): got %d and error %d, want %d", p, bound, pts, secret, q, errno, want)
	}
}

// unfit reports a result of FitSecret that is not ErrArg.
func unfit(t *testing.T, p uint64, bound int, pts []api.Point, secret uint64) {
	t.Helper()
	if q, errno := FitSecret(p, bound, pts, secret); errno != api.ErrArg || len(q) != 0 {
		t.Errorf("FitSecret(%d, %d, %d, %d): got %d and error %d", p, bound, pts, secret, q, errno)
	}
}

func TestFitKnownSecrets(t *testing.T) { // P9.3
	for _, p := range primes {
		half := (p + 1) / 2 // the inverse of 2
		for _, c := range []struct {
			t      int
			pts    []api.Point
			secret uint64
			want   []uint64
		}{
			{0, nil, 0, []uint64{0}},
			{0, []api.Point{}, 9, []uint64{9}},
			{0, nil, p - 1, []uint64{p - 1}},
			{1, pointsOf(6), 9, []uint64{9, p - 3}},
			{1, pointsOf(6), 6, []uint64{6, 0}},
			{1, pointsOf(6), 0, []uint64{0, 6}},
			{1, pointsOf(0), 0, []uint64{0, 0}},
			{1, []api.Point{{X: p - 1, Y: 1}}, 0, []uint64{0, p - 1}},
			{1, []api.Point{{X: 2, Y: 1}}, 0, []uint64{0, half}},
			// Added are 1; 1 and 2; 2; 1; 1 and 3; 2 and 3.
			{1, nil, 9, []uint64{9, p - 9}},
			{2, nil, 2, []uint64{2, p - 3, 1}},
			{2, pointsOf(0), 2, []uint64{2, p - 3, 1}},
			{2, []api.Point{{X: 2, Y: 0}}, 2, []uint64{2, p - 3, 1}},
			{3, []api.Point{{X: 2, Y: 0}}, 6, []uint64{6, p - 11, 6, p - 1}},
			{3, pointsOf(0), 6, []uint64{6, p - 11, 6, p - 1}},
			{2, []api.Point{{X: p - 1, Y: 2}}, 1, []uint64{1, p - 1, 0}},
			{2, []api.Point{{X: 3, Y: 4}}, 0, []uint64{0, times(p, 2, p-inverseOf(p, 3)), times(p, 2, inverseOf(p, 3))}},
			{2, pointsOf(0, 0), 0, []uint64{0, 0, 0}},
			{2, pointsOf(7, 7), 7, []uint64{7, 0, 0}},
			{2, pointsOf(6, 7), 5, []uint64{5, 1, 0}},
			{3, []api.Point{{X: 4, Y: 9}, {X: 1, Y: 6}, {X: 9, Y: 14}}, 5, []uint64{5, 1, 0, 0}},
			{3, pointsOf(1, 4, 9), 0, []uint64{0, 0, 1, 0}},
			{5, nil, 0, []uint64{0, 0, 0, 0, 0, 0}},
		} {
			fits(t, p, c.t, c.pts, c.secret, c.want)
		}
	}
}

func TestFitSecret(t *testing.T) { // P9.3
	for _, p := range primes {
		s := sampler{p + 9}
		for bound := range 9 {
			for count := range bound + 1 {
				for _, xs := range [][]uint64{
					s.abscissas(p, count), upTo(1, uint64(count)), upTo(2, uint64(count)+1), upTo(p-uint64(count), p-1), upTo(uint64(bound)+1, uint64(bound+count)),
				} {
					pts := make([]api.Point, count)
					for i, x := range xs {
						pts[i] = api.Point{X: x, Y: s.word() % p}
					}
					for _, secret := range []uint64{0, 1, p - 1, s.word() % p} {
						checkFit(t, p, bound, pts, secret)
						checkFit(t, p, bound, shuffled(&s, pts), secret)
					}
				}
			}
		}
	}
}

func TestFitSecretOnSmallPoints(t *testing.T) { // P9.3
	for _, p := range primes {
		s := sampler{p + 10}
		// The X are all choices among the smallest integers, so that the ones added lie before, between and behind them.
		for bound := range 8 {
			for count := range min(bound, 4) + 1 {
				eachChoice(upTo(1, 8), count, func(xs []uint64) {
					var pts []api.Point
					for _, x := range shuffled(&s, xs) {
						pts = append(pts, api.Point{X: x, Y: s.word() % p})
					}
					checkFit(t, p, bound, pts, s.word()%p)
				})
			}
		}
	}
}

func TestFitAllLines(t *testing.T) { // P9.3
	for x := uint64(1); x < 31; x++ {
		for y := range uint64(31) {
			for secret := range uint64(31) {
				slope := times(31, minus(31, y, secret), inverseOf(31, x))
				fits(t, 31, 1, []api.Point{{X: x, Y: y}}, secret, []uint64{secret, slope})
			}
		}
	}
}

func TestFitSecretOfLowDegree(t *testing.T) { // P9.3
	for _, p := range primes {
		s := sampler{p + 11}
		for bound := range 9 {
			xs := s.abscissas(p, bound)
			for size := range bound + 2 {
				f := s.elements(p, size)
				padded := append(slices.Clone(f), make([]uint64, bound+1-size)...)
				fits(t, p, bound, onGraph(p, f, xs), valueAt(p, f, 0), padded)
			}
		}
	}
}

func TestFitSecretWithGreatestBound(t *testing.T) { // P9.3
	for _, p := range []uint64{31, 127} {
		s := sampler{p + 12}
		for _, bound := range []int{int(p) - 2, int(p) - 1} {
			for _, count := range []int{0, 1, 2, bound / 2, bound - 1, bound} {
				f := s.elements(p, 3)
				pts := onGraph(p, f, s.abscissas(p, count))
				for _, secret := range []uint64{0, f[0], p - 1} {
					checkFit(t, p, bound, pts, secret)
				}
			}
		}
		fits(t, p, int(p)-1, onGraph(p, []uint64{3, 1}, upTo(1, p-1)), 3, append([]uint64{3, 1}, make([]uint64, p-2)...))
		// 1 - x^(p - 1) is 1 at 0 and 0 elsewhere.
		fits(t, p, int(p)-1, nil, 1, append(append([]uint64{1}, make([]uint64, p-2)...), p-1))
	}
	for _, p := range primes[2:] {
		checkFit(t, p, 300, []api.Point{{X: 7, Y: 5}, {X: p - 1, Y: 9}}, 4)
	}
}

func TestFitSecretBounds(t *testing.T) { // P9.3
	for _, p := range primes {
		bounds := []int{math.MinInt, math.MinInt + 1, -1 << 62, -1 << 32, -1 << 31, -31, -2, -1, int(p), int(p) + 1, int(p) + 2, 2 * int(p), math.MaxInt - 1, math.MaxInt}
		for _, bound := range bounds {
			for _, pts := range [][]api.Point{nil, {}, pointsOf(6), pointsOf(6, 7, 8)} {
				unfit(t, p, bound, pts, 5)
			}
		}
	}
	// As many points as the prime has elements, or one fewer.
	unfit(t, 31, 31, onGraph(31, nil, upTo(0, 30)), 0)
	unfit(t, 31, 31, onGraph(31, nil, upTo(1, 30)), 0)
}

func TestFitSecretTooManyPoints(t *testing.T) { // P9.3
	for _, p := range primes {
		for count := 1; count <= 6; count++ {
			// The points and the secret lie on a polynomial of degree 0 or 1, which is no excuse.
			for _, f := range [][]uint64{nil, {7}, {5, 1}} {
				pts := onGraph(p, f, upTo(1, uint64(count)))
				for bound := -1; bound < count; bound++ {
					unfit(t, p, bound, pts, valueAt(p, f, 0))
				}
				fits(t, p, count, pts, valueAt(p, f, 0), append(slices.Clone(f), make([]uint64, count+1-len(f))...))
			}
		}
	}
	unfit(t, 31, 30, onGraph(31, nil, upTo(0, 30)), 0)
	unfit(t, 31, 29, onGraph(31, nil, upTo(1, 30)), 0)
}

func TestFitSecretInvalidPoints(t *testing.T) { // P9.3
	for _, p := range primes {
		s := sampler{p + 13}
		for count := 1; count <= 5; count++ {
			f := s.elements(p, 2)
			pts := onGraph(p, f, s.abscissas(p, count))
			refuse := func(changed []api.Point) {
				for bound := -1; bound <= count+3; bound++ {
					unfit(t, p, bound, changed, f[0])
				}
				unfit(t, p, 30, changed, f[0])
			}
			doubled(p, pts, refuse)
			// An X of 0 is refused even if its value is the secret.
			withZero(p, f[0], pts, refuse)
		}
	}
	// Here the points that are missing would fill the memory; the error must come before them.
	for _, bound := range []int{1 << 40, 1 << 60, 1<<61 - 2} {
		unfit(t, 1<<61-1, bound, []api.Point{{X: 5}, {X: 5}}, 0)
		unfit(t, 1<<61-1, bound, []api.Point{{X: 5}, {X: 6}, {X: 5, Y: 1}}, 0)
		unfit(t, 1<<61-1, bound, []api.Point{{X: 0, Y: 7}}, 7)
	}
}

// checkRows reports rows that are not the wanted ones.
func checkRows(t *testing.T, what string, got, want [][]uint64, args ...any) {
	t.Helper()
	if !sameRows(got, want) {
		t.Errorf("%s %d: got %d, want %d", what, args, got, want)
	}
}

func TestConstant(t *testing.T) { // P9.4
	for _, p := range primes {
		s := sampler{p + 14}
		for n := range 14 {
			for threshold := range 5 {
				for _, k := range append(edges(p), s.elements(p, 3)...) {
					got := Constant(api.Params{P: p, N: n, T: threshold}, k)
					if len(got) != n {
						t.Fatalf("Constant for %d parties: got %d", n, got)
					}
					for _, row := range got {
						if len(row) != threshold+1 || row[0] != k || degree(row) > 0 {
							t.Errorf("Constant for threshold %d of %d: got %d", threshold, k, got)
						}
					}
				}
			}
		}
	}
	got := Constant(api.Params{P: 31, N: 4, T: 1}, 8)
	checkRows(t, "Constant", got, [][]uint64{{8, 0}, {8, 0}, {8, 0}, {8, 0}})
	got = Constant(api.Params{P: 127, N: 7, T: 2}, 126)
	checkRows(t, "Constant", got, slices.Repeat([][]uint64{{126, 0, 0}}, 7))
	got = Constant(api.Params{P: 31, N: 2, T: 0}, 3)
	checkRows(t, "Constant", got, [][]uint64{{3}, {3}})
}

// wordByWord returns the rows of the results of the operation on the words of a and b.
func wordByWord(p uint64, a, b [][]uint64, operation func(p, x, y uint64) uint64) [][]uint64 {
	var rows [][]uint64
	for i, row := range a {
		rows = append(rows, nil)
		for j, word := range row {
			rows[i] = append(rows[i], operation(p, word, b[i][j]))
		}
	}
	return rows
}

// filled returns rows of the same shape that hold k only.
func filled(a [][]uint64, k uint64) [][]uint64 {
	var rows [][]uint64
	for _, row := range a {
		rows = append(rows, slices.Repeat([]uint64{k}, len(row)))
	}
	return rows
}

// checkOperations compares Add, Sub and Scale with the operations on single words.
func checkOperations(t *testing.T, p uint64, a, b api.Sharing, factors []uint64) {
	t.Helper()
	checkRows(t, "Add", Add(p, a, b), wordByWord(p, a, b, plus), p, a, b)
	checkRows(t, "Sub", Sub(p, a, b), wordByWord(p, a, b, minus), p, a, b)
	for _, k := range factors {
		checkRows(t, "Scale", Scale(p, k, a), wordByWord(p, a, filled(a, k), times), p, k, a)
	}
}

func TestLinearOperations(t *testing.T) { // P9.4
	for _, p := range primes {
		s := sampler{p + 15}
		for rows := range 14 {
			for threshold := range 5 {
				factors := []uint64{0, 1, p - 1, s.word() % p}
				checkOperations(t, p, s.sharing(p, rows, threshold+1), s.sharing(p, rows, threshold+1), factors)
			}
		}
		// Words whose sums, differences and products pass the prime, and words at the edges.
		var a, b api.Sharing
		for _, x := range edges(p) {
			a = append(a, slices.Repeat([]uint64{x}, len(edges(p))))
			b = append(b, edges(p))
		}
		checkOperations(t, p, a, b, edges(p))
		checkOperations(t, p, b, a, edges(p))
	}
}

func TestAllPairsOfWords(t *testing.T) { // P9.4
	words := upTo(0, 30)
	var rows, columns api.Sharing
	for _, x := range words {
		rows = append(rows, words)
		columns = append(columns, slices.Repeat([]uint64{x}, 31))
	}
	checkOperations(t, 31, rows, columns, words)
	checkOperations(t, 31, columns, rows, words)
}

func TestKnownLinearOperations(t *testing.T) { // P9.4
	for _, p := range primes {
		a, b := api.Sharing{{1, 2}, {3, p - 1}}, api.Sharing{{p - 1, 5}, {4, 1}}
		checkRows(t, "Add", Add(p, a, b), [][]uint64{{0, 7}, {7, 0}}, p)
		checkRows(t, "Sub", Sub(p, a, b), [][]uint64{{2, p - 3}, {p - 1, p - 2}}, p)
		checkRows(t, "Sub", Sub(p, b, a), [][]uint64{{p - 2, 3}, {1, 2}}, p)
		checkRows(t, "Sub", Sub(p, a, a), [][]uint64{{0, 0}, {0, 0}}, p)
		checkRows(t, "Scale", Scale(p, 3, a), [][]uint64{{3, 6}, {9, p - 3}}, p)
		checkRows(t, "Scale", Scale(p, 0, a), [][]uint64{{0, 0}, {0, 0}}, p)
		checkRows(t, "Scale", Scale(p, 1, a), a, p)
		checkRows(t, "Scale", Scale(p, p-1, a), [][]uint64{{p - 1, p - 2}, {p - 3, 1}}, p)
		// Zeros at the end of a row remain.
		checkRows(t, "Add", Add(p, api.Sharing{{1, 5, 0}}, api.Sharing{{2, p - 5, 0}}), [][]uint64{{3, 0, 0}}, p)
		checkRows(t, "Scale", Scale(p, 2, api.Sharing{{0, 3, 0, 0}, {0, 0, 0, 0}}), [][]uint64{{0, 6, 0, 0}, {0, 0, 0, 0}}, p)
		checkRows(t, "Add", Add(p, api.Sharing{{7}}, api.Sharing{{8}}), [][]uint64{{15}}, p)
		for _, empty := range []api.Sharing{nil, {}} {
			checkRows(t, "Add", Add(p, empty, empty), nil, p)
			checkRows(t, "Sub", Sub(p, empty, empty), nil, p)
			checkRows(t, "Scale", Scale(p, 5, empty), nil, p)
		}
	}
}

func TestLocalShares(t *testing.T) { // P9.5
	for _, p := range primes {
		s := sampler{p + 16}
		for count := range 6 {
			for rows := range 14 {
				var l []api.Sharing
				for range count {
					// The rows of different sharings may have different lengths.
					l = append(l, s.sharing(p, rows, 1+s.below(5)))
				}
				var want [][]uint64
				for i := range rows {
					if count > 0 {
						want = append(want, nil)
					}
					for _, sharing := range l {
						want[i] = append(want[i], sharing[i][0])
					}
				}
				checkRows(t, "LocalShares", LocalShares(l), want, l)
			}
		}
	}
}

func TestKnownLocalShares(t *testing.T) { // P9.5
	a, b, c := api.Sharing{{1, 2}, {3, 30}}, api.Sharing{{30, 5}, {4, 1}}, api.Sharing{{0}, {7}}
	for _, k := range []struct {
		l    []api.Sharing
		want [][]uint64
	}{
		{nil, nil},
		{[]api.Sharing{}, nil},
		{[]api.Sharing{{}}, nil},
		{[]api.Sharing{{}, {}}, nil},
		{[]api.Sharing{{{9}}}, [][]uint64{{9}}},
		{[]api.Sharing{{{9, 8, 7}}}, [][]uint64{{9}}},
		{[]api.Sharing{a}, [][]uint64{{1}, {3}}},
		{[]api.Sharing{a, b}, [][]uint64{{1, 30}, {3, 4}}},
		{[]api.Sharing{b, a}, [][]uint64{{30, 1}, {4, 3}}},
		{[]api.Sharing{c, a, a, b, c}, [][]uint64{{0, 1, 1, 30, 0}, {7, 3, 3, 4, 7}}},
		{[]api.Sharing{{{18446744073709551615, 1}}}, [][]uint64{{18446744073709551615}}},
	} {
		checkRows(t, "LocalShares", LocalShares(k.l), k.want, k.l)
	}
	if got := LocalShares(nil); len(got) != 0 {
		t.Errorf("LocalShares of no sharing: got %d", got)
	}
}

func TestSharesDetermineSecret(t *testing.T) { // P9.6
	for _, p := range primes {
		s := sampler{p + 17}
		for threshold := range 5 {
			n := 3*threshold + 1
			q := s.elements(p, threshold+1)
			pts := pointsOf(Shares(p, n, q)...)
			for count := threshold + 1; count <= min(n, threshold+3); count++ {
				eachChoice(pts, count, func(chosen []api.Point) {
					reconstructs(t, p, threshold, chosen, q[0], api.OK)
				})
			}
			reconstructs(t, p, threshold, pts, q[0], api.OK)
		}
	}
}

func TestFewSharesFitEverySecret(t *testing.T) { // P9.6
	for _, p := range primes {
		s := sampler{p + 18}
		secrets := append(edges(p), s.elements(p, 5)...)
		if p == 31 {
			secrets = upTo(0, 30)
		}
		for threshold := range 5 {
			n := 3*threshold + 1
			pts := pointsOf(Shares(p, n, s.elements(p, threshold+1))...)
			for count := range threshold + 1 {
				eachChoice(pts, count, func(known []api.Point) {
					for _, secret := range secrets {
						checkKnownShares(t, p, threshold, known, secret)
					}
				})
			}
		}
	}
}

// checkKnownShares reports a polynomial for the secret that does not have the known shares, or from whose shares the secret is not reconstructed.
func checkKnownShares(t *testing.T, p uint64, threshold int, known []api.Point, secret uint64) {
	t.Helper()
	q, errno := FitSecret(p, threshold, known, secret)
	if errno != api.OK {
		t.Fatalf("FitSecret(%d, %d, %d, %d): error %d", p, threshold, known, secret, errno)
	}
	shares := Shares(p, 3*threshold+1, q)
	for _, pt := range known {
		if shares[pt.X-1] != pt.Y {
			t.Errorf("modulo %d, the shares %d of %d lack %d", p, shares, q, pt)
		}
	}
	reconstructs(t, p, threshold, pointsOf(shares...), secret, api.OK)
}

func TestEquallyManyPolynomialsForEverySecret(t *testing.T) { // P9.6
	// For each pair of shares of parties 1 and 4, exactly one polynomial of degree at most 2 has each secret.
	var counts [31][31][31]int
	eachList(upTo(0, 30), 3, func(q []uint64) {
		shares := Shares(31, 4, q)
		counts[shares[0]][shares[3]][q[0]]++
	})
	for i, c := range counts {
		for j, d := range c {
			for secret, count := range d {
				if count != 1 {
					t.Errorf("%d polynomials with the secret %d have the shares %d and %d", count, secret, i, j)
				}
			}
		}
	}
}

func TestAddedVanishingPolynomial(t *testing.T) { // P9.6
	for _, p := range primes {
		s := sampler{p + 19}
		for size := range 7 {
			q := s.elements(p, size)
			for count := range 5 {
				eachChoice(upTo(1, 7), count, func(parties []uint64) {
					checkVanishing(t, p, q, vanishing(p, 1+s.word()%(p-1), parties), parties)
				})
			}
		}
	}
}

// checkVanishing reports shares of the parties that the polynomial z changes, although it is 0 at their points, and shares of others that it does not change.
func checkVanishing(t *testing.T, p uint64, q, z, parties []uint64) {
	t.Helper()
	before, after := Shares(p, 13, q), Shares(p, 13, sumOf(p, q, z))
	for i := range before {
		if (before[i] == after[i]) != slices.Contains(parties, uint64(i)+1) {
			t.Errorf("modulo %d, adding %d to %d turns the share %d of party %d into %d", p, z, q, before[i], i+1, after[i])
		}
	}
}

func TestVanishingPolynomialChangesSecret(t *testing.T) { // P9.6
	for _, p := range primes {
		s := sampler{p + 20}
		for threshold := range 5 {
			q, parties := s.elements(p, threshold+1), upTo(1, uint64(threshold))
			z := vanishing(p, 1, parties)
			for _, d := range edges(p) {
				pts := pointsOf(Shares(p, 3*threshold+1, sumOf(p, q, multipleOf(p, d, z)))...)
				reconstructs(t, p, threshold, pts, plus(p, q[0], times(p, d, z[0])), api.OK)
			}
		}
	}
}

func TestSharingIsLinear(t *testing.T) { // P9.6
	for _, p := range primes {
		s := sampler{p + 21}
		for threshold := range 5 {
			n := 3*threshold + 1
			for range 20 {
				a, b := s.elements(p, threshold+1), s.elements(p, threshold+1)
				k, l := s.word()%p, s.word()%p
				x, y := Shares(p, n, a), Shares(p, n, b)
				sum := sumOf(p, multipleOf(p, k, a), multipleOf(p, l, b))
				want := sumOf(p, multipleOf(p, k, x), multipleOf(p, l, y))
				if got := Shares(p, n, sum); !slices.Equal(got, want) {
					t.Errorf("Shares(%d, %d, %d): got %d, want %d", p, n, sum, got, want)
				}
				secret := plus(p, times(p, k, a[0]), times(p, l, b[0]))
				reconstructs(t, p, threshold, pointsOf(want...), secret, api.OK)
			}
		}
	}
}

// dealt returns a sharing whose rows begin with the shares of q and go on with any words.
func (s *sampler) dealt(p uint64, n int, q []uint64) api.Sharing {
	sharing := s.sharing(p, n, len(q))
	for i, share := range Shares(p, n, q) {
		sharing[i][0] = share
	}
	return sharing
}

func TestOperationsOnSharings(t *testing.T) { // P9.4, P9.5, P9.6
	for _, p := range primes {
		s := sampler{p + 22}
		for threshold := range 5 {
			params := api.Params{P: p, N: 3*threshold + 1, T: threshold}
			a, b := s.elements(p, threshold+1), s.elements(p, threshold+1)
			x, y := s.dealt(p, params.N, a), s.dealt(p, params.N, b)
			for _, k := range append(edges(p), s.word()%p) {
				lists := LocalShares([]api.Sharing{x, Add(p, x, y), Sub(p, x, y), Scale(p, k, x), Add(p, x, Constant(params, k))})
				for j, want := range []uint64{a[0], plus(p, a[0], b[0]), minus(p, a[0], b[0]), times(p, k, a[0]), plus(p, a[0], k)} {
					var shares []uint64
					for _, list := range lists {
						shares = append(shares, list[j])
					}
					reconstructs(t, p, threshold, pointsOf(shares...), want, api.OK)
				}
			}
		}
	}
}

func TestLawsOfSharings(t *testing.T) { // P9.6
	for _, p := range primes {
		s := sampler{p + 23}
		params := api.Params{P: p, N: 7, T: 2}
		zero := Constant(params, 0)
		for range 20 {
			a, b, c := s.sharing(p, 7, 3), s.sharing(p, 7, 3), s.sharing(p, 7, 3)
			k, l := s.word()%p, s.word()%p
			checkRows(t, "a + b", Add(p, a, b), Add(p, b, a))
			checkRows(t, "a + b + c", Add(p, Add(p, a, b), c), Add(p, a, Add(p, b, c)))
			checkRows(t, "a + 0", Add(p, a, zero), a)
			checkRows(t, "a - a", Sub(p, a, a), zero)
			checkRows(t, "a + b - b", Sub(p, Add(p, a, b), b), a)
			checkRows(t, "a - b", Sub(p, a, b), Add(p, a, Scale(p, p-1, b)))
			checkRows(t, "k (a + b)", Scale(p, k, Add(p, a, b)), Add(p, Scale(p, k, a), Scale(p, k, b)))
			checkRows(t, "(k + l) a", Scale(p, plus(p, k, l), a), Add(p, Scale(p, k, a), Scale(p, l, a)))
			checkRows(t, "k l a", Scale(p, k, Scale(p, l, a)), Scale(p, times(p, k, l), a))
			checkRows(t, "k + l", Add(p, Constant(params, k), Constant(params, l)), Constant(params, plus(p, k, l)))
		}
	}
}

// spare returns a copy of the list with marks behind its end, and a function that reports whether list and marks are as they were.
func spare[E comparable](list []E, mark E) ([]E, func() bool) {
	whole := append(slices.Clone(list), mark, mark)
	return whole[:len(list)], func() bool {
		return slices.Equal(whole[:len(list)], list) && whole[len(list)] == mark && whole[len(list)+1] == mark
	}
}

// spareRows does the same for a sharing and each of its rows.
func spareRows(a api.Sharing) (api.Sharing, func() bool) {
	whole := make(api.Sharing, len(a), len(a)+1)
	checks := []func() bool{}
	for i, row := range a {
		copied, unchanged := spare(row, 29)
		whole[i] = copied
		checks = append(checks, unchanged)
	}
	firsts := slices.Clone(whole)
	return whole, func() bool {
		for i, unchanged := range checks {
			if !unchanged() || len(whole[i]) != len(firsts[i]) || len(firsts[i]) > 0 && &whole[i][0] != &firsts[i][0] {
				return false
			}
		}
		return whole[: len(a)+1 : len(a)+1][len(a)] == nil
	}
}

// overwrite sets all elements, and those in the spare capacity, to the given one.
func overwrite[E any](list []E, element E) {
	list = list[:cap(list)]
	for i := range list {
		list[i] = element
	}
}

func TestArgumentsAreNotChanged(t *testing.T) { // P9.1, P9.2, P9.3
	mark := api.Point{X: 29, Y: 30}
	for _, p := range primes {
		s := sampler{p + 24}
		for bound := range 5 {
			for count := range 8 {
				f := s.elements(p, 1+s.below(bound+1))
				q, same := spare(append(f, 0), 30)
				shares := Shares(p, 5, q)
				pts, unchanged := spare(onGraph(p, f, s.abscissas(p, count)), mark)
				Reconstruct(p, bound, pts)
				Reconstruct(p, count, pts)
				fitted, _ := FitSecret(p, bound, pts, 7)
				if !same() || !unchanged() {
					t.Errorf("an argument is changed: now %d and %d", q, pts)
				}
				kept, keptFit := slices.Clone(shares), slices.Clone(fitted)
				overwrite(q, 17)
				overwrite(pts, mark)
				if !slices.Equal(shares, kept) || !slices.Equal(fitted, keptFit) {
					t.Errorf("a result shares memory with an argument")
				}
			}
		}
	}
}

func TestSharingsAreNotChanged(t *testing.T) { // P9.4, P9.5
	s := sampler{25}
	for rows := range 5 {
		for words := 1; words <= 3; words++ {
			a, unchanged := spareRows(s.sharing(31, rows, words))
			b, same := spareRows(s.sharing(31, rows, words))
			l := []api.Sharing{a, b, nil}[:2]
			results := [][][]uint64{Add(31, a, b), Sub(31, a, b), Scale(31, 1, a), Scale(31, 3, a), Add(31, a, a), LocalShares(l), LocalShares(l[:1])}
			if !unchanged() || !same() || l[:3][2] != nil || len(l[0]) != rows || len(l[1]) != rows {
				t.Errorf("an argument is changed: now %d and %d", a, b)
			}
			kept := make([][][]uint64, len(results))
			for i, result := range results {
				for _, row := range result {
					kept[i] = append(kept[i], slices.Clone(row))
				}
			}
			for i := range rows {
				overwrite(a[i], 17)
				overwrite(b[i], 18)
			}
			overwrite(a, nil)
			overwrite(b, nil)
			overwrite(l, nil)
			for i, result := range results {
				checkRows(t, "a result after its arguments are overwritten", result, kept[i], i)
			}
		}
	}
}

func TestRowsOfResultsAreNew(t *testing.T) { // P9.4, P9.5
	row := []uint64{3, 4}
	a := api.Sharing{row, row, row}
	for i, result := range [][][]uint64{
		Constant(api.Params{P: 31, N: 3, T: 1}, 5), Add(31, a, a), Sub(31, a, a), Scale(31, 1, a), LocalShares([]api.Sharing{a, a}),
	} {
		rest := [][]uint64{slices.Clone(result[1]), slices.Clone(result[2])}
		// Writing behind the end of a row must not reach the next one.
		_ = append(result[0], 9, 9, 9)
		overwrite(result[0], 17)
		checkRows(t, "the other rows of a result", result[1:], rest, i)
	}
	if !slices.Equal(row, []uint64{3, 4}) {
		t.Errorf("a row is changed: now %d", row)
	}
}

func TestResultsDoNotLastInCalls(t *testing.T) { // P9.1, P9.3, P9.4
	shares := Shares(31, 4, []uint64{5, 1})
	q, _ := FitSecret(31, 2, pointsOf(6), 5)
	constant := Constant(api.Params{P: 31, N: 4, T: 1}, 5)
	want := slices.Clone(q)
	overwrite(shares, 17)
	overwrite(q, 17)
	overwrite(constant[0], 17)
	checkShares(t, 31, 4, []uint64{5, 1})
	fits(t, 31, 2, pointsOf(6), 5, want)
	checkRows(t, "Constant", Constant(api.Params{P: 31, N: 4, T: 1}, 5), slices.Repeat([][]uint64{{5, 0}}, 4))
}

func TestSameResultsAtTheSameTime(t *testing.T) { // P9.2, P9.3
	s := sampler{26}
	f := s.elements(8191, 6)
	pts := onGraph(8191, f, s.abscissas(8191, 20))
	want, _ := FitSecret(8191, 30, pts, 9)
	var group sync.WaitGroup
	for range 8 {
		group.Go(func() {
			for range 20 {
				reconstructs(t, 8191, 5, pts, f[0], api.OK)
				fits(t, 8191, 30, pts, 9, want)
			}
		})
	}
	group.Wait()
}

func TestArgumentsOutsideThePreconditions(t *testing.T) { // no promise but LANGUAGE.md's: a call does not panic
	words := []uint64{0, 1, 31, 32, math.MaxUint64}
	for _, p := range []uint64{0, 1, 2, 31, 32, 1 << 32, math.MaxUint64} {
		for _, n := range []int{0, 1, 31, 32, 100} {
			Shares(p, n, words)
		}
		eachList(words, 3, func(list []uint64) {
			pts := []api.Point{{X: list[0], Y: list[1]}, {X: list[1], Y: list[2]}, {X: list[2], Y: list[0]}}
			for bound := -1; bound <= 5; bound++ {
				if secret, errno := Reconstruct(p, bound, pts); errno != api.OK && secret != 0 {
					t.Errorf("Reconstruct(%d, %d, %d): got %d beside an error", p, bound, pts, secret)
				}
				if q, errno := FitSecret(p, bound, pts, list[0]); errno != api.OK && len(q) != 0 {
					t.Errorf("FitSecret(%d, %d, %d): got %d beside an error", p, bound, pts, q)
				}
			}
		})
		shapes := []api.Sharing{nil, {}, {nil}, {{}, {1}}, {{1, 2}}, {{1, 2, 3}, {4}}, {{math.MaxUint64}, nil, words}}
		for _, a := range shapes {
			for _, b := range shapes {
				Add(p, a, b)
				Sub(p, a, b)
				LocalShares([]api.Sharing{a, b})
			}
			Scale(p, math.MaxUint64, a)
		}
		for _, n := range []int{math.MinInt, -1, 0, 1, 4} {
			for _, threshold := range []int{math.MinInt, -1, 0, 3, 9} {
				Constant(api.Params{P: p, N: n, T: threshold}, math.MaxUint64)
			}
		}
	}
}
