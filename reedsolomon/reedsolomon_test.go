package reedsolomon

import (
	"math"
	"math/big"
	"math/bits"
	"slices"
	"sync"
	"testing"

	"privity/api"
)

var primes = []uint64{31, 127, 8191, 131071, 524287, 2147483647, 2305843009213693951}

// sampler yields a fixed sequence of words, so that every run tests the same cases.
type sampler struct{ state uint64 }

func (s *sampler) word() uint64 {
	s.state += 0x9e3779b97f4a7c15
	z := s.state
	z = (z ^ z>>30) * 0xbf58476d1ce4e5b9
	z = (z ^ z>>27) * 0x94d049bb133111eb
	return z ^ z>>31
}

// below returns a number below n.
func (s *sampler) below(n int) int { return int(s.word() % uint64(n)) }

func (s *sampler) elements(p uint64, count int) []uint64 {
	list := make([]uint64, count)
	for i := range list {
		list[i] = s.word() % p
	}
	return list
}

// distinct returns different elements in some order.
func (s *sampler) distinct(p uint64, count int) []uint64 {
	var list []uint64
	for len(list) < count {
		if x := s.word() % p; !slices.Contains(list, x) {
			list = append(list, x)
		}
	}
	return list
}

// some returns count of the numbers below n in some order.
func (s *sampler) some(n, count int) []int {
	list := make([]int, n)
	for i := range list {
		list[i] = i
	}
	for i := range count {
		j := i + s.below(n-i)
		list[i], list[j] = list[j], list[i]
	}
	return list[:count]
}

// altered returns the points with other values at the given positions.
func (s *sampler) altered(p uint64, pts []api.Point, positions []int) []api.Point {
	result := slices.Clone(pts)
	for _, i := range positions {
		result[i].Y = plus(p, result[i].Y, 1+s.word()%(p-1))
	}
	return result
}

// plus, minus, times and inverseOf compute modulo p without the code under test and the packages that it calls.
func plus(p, a, b uint64) uint64 {
	low, high := bits.Add64(a, b, 0)
	return bits.Rem64(high, low, p)
}

func minus(p, a, b uint64) uint64 { return plus(p, a, p-b) }

func times(p, a, b uint64) uint64 {
	high, low := bits.Mul64(a, b)
	return bits.Rem64(high, low, p)
}

// inverseOf returns the inverse of a by Fermat's theorem.
func inverseOf(p, a uint64) uint64 {
	power := uint64(1)
	for e := p - 2; e > 0; e >>= 1 {
		if e&1 == 1 {
			power = times(p, power, a)
		}
		a = times(p, a, a)
	}
	return power
}

// valueAt returns f(x) as the sum of its terms.
func valueAt(p uint64, f []uint64, x uint64) uint64 {
	sum, power := uint64(0), uint64(1)
	for _, c := range f {
		sum = plus(p, sum, times(p, c, power))
		power = times(p, power, x)
	}
	return sum
}

// onGraph returns the points of f at the given xs.
func onGraph(p uint64, f, xs []uint64) []api.Point {
	pts := make([]api.Point, len(xs))
	for i, x := range xs {
		pts[i] = api.Point{X: x, Y: valueAt(p, f, x)}
	}
	return pts
}

// pointsOf returns the points with the given values at 1, 2, ...
func pointsOf(ys ...uint64) []api.Point {
	pts := make([]api.Point, len(ys))
	for i, y := range ys {
		pts[i] = api.Point{X: uint64(i + 1), Y: y}
	}
	return pts
}

// trim returns f without the zeros at its end.
func trim(f []uint64) []uint64 {
	for len(f) > 0 && f[len(f)-1] == 0 {
		f = f[:len(f)-1]
	}
	return f
}

// errorsOf returns the indices of the errors by their definition.
func errorsOf(p uint64, f []uint64, pts []api.Point) []int {
	var list []int
	for i, pt := range pts {
		if valueAt(p, f, pt.X) != pt.Y {
			list = append(list, i)
		}
	}
	return list
}

// through returns the polynomial through the points, found by adding for each of them a multiple of the product that is 0 at those before it.
func through(p uint64, pts []api.Point) []uint64 {
	f, product := make([]uint64, len(pts)), make([]uint64, len(pts)+1)
	product[0] = 1
	for _, pt := range pts {
		k := times(p, minus(p, pt.Y, valueAt(p, f, pt.X)), inverseOf(p, valueAt(p, product, pt.X)))
		for i := range f {
			f[i] = plus(p, f[i], times(p, k, product[i]))
		}
		for i := len(pts); i >= 0; i-- {
			product[i] = minus(p, 0, times(p, product[i], pt.X))
			if i > 0 {
				product[i] = plus(p, product[i], product[i-1])
			}
		}
	}
	return trim(f)
}

// valid reports whether the parameters are valid for the points, by the definition.
func valid(pts []api.Point, deg, wrong int) bool {
	for i, a := range pts {
		for _, b := range pts[:i] {
			if a.X == b.X {
				return false
			}
		}
	}
	needed := big.NewInt(int64(wrong))
	needed.Add(needed, needed).Add(needed, big.NewInt(int64(deg))).Add(needed, big.NewInt(1))
	return deg >= 0 && wrong >= 0 && needed.Cmp(big.NewInt(int64(len(pts)))) <= 0
}

// eachChoice calls use with all lists of count of the points until it returns false.
func eachChoice(pts []api.Point, count int, use func(chosen []api.Point) bool) {
	for set := range uint(1) << len(pts) {
		if bits.OnesCount(set) != count {
			continue
		}
		var chosen []api.Point
		for rest := set; rest != 0; rest &= rest - 1 {
			chosen = append(chosen, pts[bits.TrailingZeros(rest)])
		}
		if !use(chosen) {
			return
		}
	}
}

// answer is what Decode returns.
type answer struct {
	f         []uint64
	positions []int
	errno     api.Errno
}

// expected finds the answer by trying the polynomials through all choices of deg + 1 points; one that is within the bound passes through so many.
func expected(p uint64, pts []api.Point, deg, wrong int) answer {
	if !valid(pts, deg, wrong) {
		return answer{errno: api.ErrArg}
	}
	found := answer{errno: api.ErrTooManyErrors}
	eachChoice(pts, deg+1, func(chosen []api.Point) bool {
		f := through(p, chosen)
		positions := errorsOf(p, f, pts)
		if len(positions) <= wrong {
			found = answer{f, positions, api.OK}
		}
		return len(positions) > wrong
	})
	return found
}

// check reports an answer of Decode that is not the one wanted.
func check(t *testing.T, p uint64, pts []api.Point, deg, wrong int, want answer) {
	t.Helper()
	f, positions, errno := Decode(p, pts, deg, wrong)
	if errno != want.errno || !slices.Equal(f, want.f) || !slices.Equal(positions, want.positions) {
		t.Errorf("Decode(%d, %d, %d, %d): got %d, %d and error %d, want %d", p, pts, deg, wrong, f, positions, errno, want)
	}
}

// found reports an answer of Decode that is not the given polynomial with errors at the given positions, which may stand in any order.
func found(t *testing.T, p uint64, pts []api.Point, deg, wrong int, f []uint64, positions []int) {
	t.Helper()
	check(t, p, pts, deg, wrong, answer{trim(f), slices.Sorted(slices.Values(positions)), api.OK})
}

// refused reports an answer of Decode that is not the given error.
func refused(t *testing.T, p uint64, pts []api.Point, deg, wrong int, errno api.Errno) {
	t.Helper()
	check(t, p, pts, deg, wrong, answer{errno: errno})
}

// eachList calls use with all lists of the given length whose elements are among those given.
func eachList(elements []uint64, length int, use func(list []uint64)) {
	if length == 0 {
		use(nil)
		return
	}
	eachList(elements, length-1, func(list []uint64) {
		for _, element := range elements {
			use(append(slices.Clone(list), element))
		}
	})
}

// eachShape calls use with the shapes of valid parameters for up to the given number of points.
func eachShape(most int, use func(count, deg, wrong int)) {
	for count := 1; count <= most; count++ {
		for deg := range count {
			for wrong := 0; deg+1+2*wrong <= count; wrong++ {
				use(count, deg, wrong)
			}
		}
	}
}

func TestExample(t *testing.T) { // P8.1
	pts := []api.Point{{X: 1, Y: 2}, {X: 2, Y: 3}, {X: 3, Y: 9}, {X: 4, Y: 5}}
	found(t, 31, pts, 1, 1, []uint64{1, 1}, []int{2})
	if positions := ErrorPositions(31, []uint64{1, 1}, pts); !slices.Equal(positions, []int{2}) {
		t.Errorf("ErrorPositions: got %d", positions)
	}
}

func TestKnownCodes(t *testing.T) { // P8.1
	for _, p := range primes {
		// The squares of 1, ..., 5, the line 2 x - 3 and the constant p - 1.
		found(t, p, pointsOf(1, 4, 9, 16, 25), 2, 1, []uint64{0, 0, 1}, nil)
		found(t, p, pointsOf(1, 4, 9, 16, 24), 2, 1, []uint64{0, 0, 1}, []int{4})
		found(t, p, pointsOf(0, 4, 9, 16, 25), 2, 1, []uint64{0, 0, 1}, []int{0})
		refused(t, p, pointsOf(0, 4, 9, 16, 26), 2, 1, api.ErrTooManyErrors)
		refused(t, p, pointsOf(1, 4, 9, 16, 25), 1, 1, api.ErrTooManyErrors)
		refused(t, p, pointsOf(1, 4, 9, 16, 25), 0, 2, api.ErrTooManyErrors)
		refused(t, p, pointsOf(1, 4, 9, 16, 25), 2, 2, api.ErrArg)
		found(t, p, pointsOf(p-1, 1, 3, 5, 7, 9), 1, 2, []uint64{p - 3, 2}, nil)
		found(t, p, pointsOf(p-1, 7, 3, 7, 7, 9), 1, 2, []uint64{p - 3, 2}, []int{1, 3})
		found(t, p, pointsOf(5, 1, 3, 5, 7, 5), 1, 2, []uint64{p - 3, 2}, []int{0, 5})
		// Three altered values are too many for the line, but may leave another one within the bound.
		refused(t, p, pointsOf(5, 1, 3, 6, 7, 5), 1, 2, api.ErrTooManyErrors)
		found(t, p, pointsOf(5, 1, 3, 5, 5, 5), 1, 2, []uint64{5}, []int{1, 2})
		found(t, p, pointsOf(p-1, p-1, 0, p-1, p-1), 0, 1, []uint64{p - 1}, []int{2})
		found(t, p, pointsOf(p-1, p-1, 0, p-1, 1), 0, 2, []uint64{p - 1}, []int{2, 4})
		refused(t, p, pointsOf(p-1, p-1, 0, p-1, 1), 0, 1, api.ErrTooManyErrors)
		refused(t, p, pointsOf(p-1, p-1, 0, 0, 1), 0, 2, api.ErrTooManyErrors)
	}
}

func TestSmallestCodes(t *testing.T) { // P8.1
	for _, p := range primes {
		for _, x := range []uint64{0, 1, 2, p / 2, p - 1} {
			for _, y := range []uint64{1, 2, p / 2, p - 1} {
				found(t, p, []api.Point{{X: x, Y: y}}, 0, 0, []uint64{y}, nil)
				refused(t, p, []api.Point{{X: x, Y: y}}, 0, 1, api.ErrArg)
				refused(t, p, []api.Point{{X: x, Y: y}}, 1, 0, api.ErrArg)
			}
			found(t, p, []api.Point{{X: x}}, 0, 0, nil, nil)
		}
	}
}

// eachBound lists all bounds around the valid ones, and some that are much too large or too small.
func eachBound(count int, use func(bound int)) {
	for bound := -2; bound <= count+2; bound++ {
		use(bound)
	}
	for _, bound := range []int{math.MinInt, math.MinInt + 1, -1 << 62, -1 << 32, 1 << 31, 1 << 32, 1<<32 + 1, 1<<61 + 1, 1<<62 - 1, 1 << 62, 1<<62 + 1, math.MaxInt - 1, math.MaxInt} {
		use(bound)
	}
}

func TestAllBounds(t *testing.T) { // P8.1
	for _, p := range primes {
		s := sampler{p}
		for count := range 8 {
			pts := onGraph(p, s.elements(p, 2), s.distinct(p, count))
			if count > 0 {
				pts = s.altered(p, pts, []int{s.below(count)})
			}
			eachBound(count, func(deg int) {
				eachBound(count, func(wrong int) { check(t, p, pts, deg, wrong, expected(p, pts, deg, wrong)) })
			})
		}
	}
}

func TestSumsThatDoNotFit(t *testing.T) { // P8.1
	pts := pointsOf(1, 2, 3, 4, 5)
	for _, bounds := range [][2]int{
		// Here deg + 1 + 2 wrong does not fit an int; most of these sums wrap round to less than the number of points.
		{math.MaxInt, 0}, {math.MaxInt, math.MaxInt}, {math.MaxInt - 1, math.MaxInt}, {math.MaxInt, math.MaxInt - 1},
		{0, math.MaxInt}, {1, math.MaxInt}, {2, math.MaxInt}, {3, math.MaxInt}, {4, math.MaxInt},
		{0, 1 << 62}, {1, 1 << 62}, {1, 1<<62 - 1}, {math.MaxInt, 1}, {math.MaxInt, 2}, {math.MaxInt, 1 << 62}, {math.MaxInt - 4, 1<<62 + 1},
		// Here a negative bound makes the sum as small as it would have to be.
		{-1, 2}, {-1, 0}, {-3, 3}, {-100, 50}, {math.MinInt, 0}, {math.MinInt, math.MaxInt}, {math.MinInt, 1 << 62}, {math.MinInt, math.MinInt},
		{0, -1}, {4, -1}, {6, -1}, {100, -50}, {0, math.MinInt}, {4, math.MinInt}, {math.MaxInt, math.MinInt}, {math.MaxInt, -1 << 62}, {-1, -1},
	} {
		for _, p := range primes {
			refused(t, p, pts, bounds[0], bounds[1], api.ErrArg)
			refused(t, p, nil, bounds[0], bounds[1], api.ErrArg)
		}
	}
}

func TestNoPoints(t *testing.T) { // P8.1
	for _, p := range primes {
		for _, pts := range [][]api.Point{nil, {}} {
			eachBound(2, func(deg int) {
				eachBound(2, func(wrong int) { refused(t, p, pts, deg, wrong, api.ErrArg) })
			})
		}
	}
}

func TestNumberOfPoints(t *testing.T) { // P8.1
	for _, p := range primes {
		s := sampler{p + 1}
		for deg := range 8 {
			for wrong := range 5 {
				needed := deg + 1 + 2*wrong
				f := s.elements(p, deg+1)
				pts := onGraph(p, f, s.distinct(p, needed+3))
				refused(t, p, pts[:needed-1], deg, wrong, api.ErrArg)
				for count := needed; count <= needed+3; count++ {
					positions := s.some(count, wrong)
					found(t, p, s.altered(p, pts[:count], positions), deg, wrong, f, positions)
				}
			}
		}
	}
}

func TestSameX(t *testing.T) { // P8.1
	for _, p := range primes {
		s := sampler{p + 2}
		for count := 2; count <= 6; count++ {
			pts := onGraph(p, s.elements(p, 2), s.distinct(p, count))
			for i := range count {
				for j := range count {
					if i == j {
						continue
					}
					doubled := slices.Clone(pts)
					doubled[i] = doubled[j]
					other := s.altered(p, doubled, []int{j})
					zero := slices.Clone(pts)
					zero[i], zero[j] = api.Point{X: 0, Y: 1}, api.Point{X: 0, Y: 0}
					for deg := -1; deg <= count; deg++ {
						for wrong := -1; wrong <= count; wrong++ {
							refused(t, p, doubled, deg, wrong, api.ErrArg)
							refused(t, p, other, deg, wrong, api.ErrArg)
							refused(t, p, zero, deg, wrong, api.ErrArg)
						}
					}
				}
			}
		}
		refused(t, p, slices.Repeat([]api.Point{{X: p - 1, Y: 1}}, 9), 1, 1, api.ErrArg)
	}
}

func TestArgumentErrorStandsFirst(t *testing.T) { // P8.1
	for _, p := range primes {
		// No line passes through three of these points.
		pts := []api.Point{{X: 1, Y: 1}, {X: 2, Y: 4}, {X: 3, Y: 9}, {X: 4, Y: 16}, {X: 5, Y: 25}}
		refused(t, p, pts, 1, 0, api.ErrTooManyErrors)
		refused(t, p, pts, 1, 1, api.ErrTooManyErrors)
		refused(t, p, pts, 1, 2, api.ErrArg)
		refused(t, p, pts, 1, -1, api.ErrArg)
		refused(t, p, append(slices.Clone(pts), pts[4]), 1, 1, api.ErrArg)
		refused(t, p, append(slices.Clone(pts), api.Point{X: 1, Y: 2}), 1, 1, api.ErrArg)
	}
}

func TestAllValues(t *testing.T) { // P8.1
	for _, p := range []uint64{31, 8191, 2305843009213693951} {
		eachShape(5, func(count, deg, wrong int) {
			for _, xs := range [][]uint64{{0, 1, 2, 3, 4}, {p - 1, 5, 0, 1, p / 2}} {
				eachList([]uint64{0, 1, 2, p - 1}, count, func(ys []uint64) {
					pts := make([]api.Point, count)
					for i, y := range ys {
						pts[i] = api.Point{X: xs[i], Y: y}
					}
					check(t, p, pts, deg, wrong, expected(p, pts, deg, wrong))
				})
			}
		})
	}
}

func TestAllTriplesOfValues(t *testing.T) { // P8.1
	for a := range uint64(31) {
		for b := range uint64(31) {
			for c := range uint64(31) {
				pts := []api.Point{{X: 7, Y: a}, {X: 0, Y: b}, {X: 30, Y: c}}
				switch {
				case a == b && b == c:
					found(t, 31, pts, 0, 1, []uint64{a}, nil)
				case a == b:
					found(t, 31, pts, 0, 1, []uint64{a}, []int{2})
				case a == c:
					found(t, 31, pts, 0, 1, []uint64{a}, []int{1})
				case b == c:
					found(t, 31, pts, 0, 1, []uint64{b}, []int{0})
				default:
					refused(t, 31, pts, 0, 1, api.ErrTooManyErrors)
				}
			}
		}
	}
}

// best tries all lines modulo 31 and returns those with the fewest errors, and the number of these.
func best(pts []api.Point) ([][]uint64, int) {
	var lines [][]uint64
	fewest := len(pts) + 1
	eachList([]uint64{0, 1, 2, 3, 4, 5, 6, 7, 8, 9, 10, 11, 12, 13, 14, 15, 16, 17, 18, 19, 20, 21, 22, 23, 24, 25, 26, 27, 28, 29, 30}, 2, func(f []uint64) {
		count := len(errorsOf(31, f, pts))
		if count < fewest {
			lines, fewest = nil, count
		}
		if count == fewest {
			lines = append(lines, f)
		}
	})
	return lines, fewest
}

func TestAgainstAllLines(t *testing.T) { // P8.1
	s := sampler{3}
	for range 400 {
		count := 2 + s.below(8)
		pts := onGraph(31, s.elements(31, 2), s.distinct(31, count))
		pts = s.altered(31, pts, s.some(count, s.below(count)))
		lines, fewest := best(pts)
		for wrong := range (count-2)/2 + 1 {
			if fewest > wrong {
				refused(t, 31, pts, 1, wrong, api.ErrTooManyErrors)
				continue
			}
			found(t, 31, pts, 1, wrong, lines[0], errorsOf(31, lines[0], pts))
			if len(lines) > 1 {
				t.Errorf("%d: several lines, %d, have %d errors", pts, lines, fewest)
			}
		}
	}
}

func TestAllShapes(t *testing.T) { // P8.1
	for _, p := range primes {
		s := sampler{p + 4}
		eachShape(10, func(count, deg, wrong int) {
			xs := s.distinct(p, count)
			// The zero polynomial and all smaller degrees are among the results.
			for size := range deg + 2 {
				f := s.elements(p, size)
				pts := onGraph(p, f, xs)
				for number := range wrong + 1 {
					positions := s.some(count, number)
					found(t, p, s.altered(p, pts, positions), deg, wrong, f, positions)
				}
				for number := wrong + 1; number <= min(wrong+2, count); number++ {
					more := s.altered(p, pts, s.some(count, number))
					check(t, p, more, deg, wrong, expected(p, more, deg, wrong))
				}
			}
		})
	}
}

func TestMostParties(t *testing.T) { // P8.1
	for _, p := range primes {
		s := sampler{p + 5}
		var xs []uint64
		for x := range uint64(13) {
			xs = append(xs, x+1)
		}
		for number := range 14 {
			for range 4 {
				f := s.elements(p, 5)
				positions := s.some(13, number)
				pts := s.altered(p, onGraph(p, f, xs), positions)
				if number <= 4 {
					found(t, p, pts, 4, 4, f, positions)
				} else {
					check(t, p, pts, 4, 4, expected(p, pts, 4, 4))
				}
			}
		}
	}
}

func TestEveryChoiceOfErrors(t *testing.T) { // P8.1
	for _, p := range primes {
		s := sampler{p + 6}
		f := s.elements(p, 3)
		xs := s.distinct(p, 9)
		if !slices.Contains(xs, 0) {
			xs[s.below(9)] = 0
		}
		pts := onGraph(p, f, xs)
		for set := range uint(1) << 9 {
			var positions []int
			for i := range 9 {
				if set>>i&1 == 1 {
					positions = append(positions, i)
				}
			}
			changed := s.altered(p, pts, positions)
			if len(positions) <= 3 {
				found(t, p, changed, 2, 3, f, positions)
			} else {
				check(t, p, changed, 2, 3, expected(p, changed, 2, 3))
			}
		}
	}
}

func TestFirstAndLastPoint(t *testing.T) { // P8.1
	for _, p := range primes {
		s := sampler{p + 7}
		eachShape(13, func(count, deg, wrong int) {
			if wrong == 0 {
				return
			}
			f := s.elements(p, deg+1)
			pts := onGraph(p, f, s.distinct(p, count))
			found(t, p, s.altered(p, pts, []int{0}), deg, wrong, f, []int{0})
			found(t, p, s.altered(p, pts, []int{count - 1}), deg, wrong, f, []int{count - 1})
			if wrong > 1 {
				found(t, p, s.altered(p, pts, []int{0, count - 1}), deg, wrong, f, []int{0, count - 1})
			}
			var first, last []int
			for i := range wrong {
				first, last = append(first, i), append(last, count-1-i)
			}
			found(t, p, s.altered(p, pts, first), deg, wrong, f, first)
			found(t, p, s.altered(p, pts, last), deg, wrong, f, last)
		})
	}
}

func TestPointAtZero(t *testing.T) { // P8.1
	for _, p := range primes {
		for _, xs := range [][]uint64{{0, 1, 2, 3, 4}, {1, 2, 0, 3, 4}, {p - 1, p - 2, p - 3, p - 4, 0}} {
			at := slices.Index(xs, 0)
			for _, f := range [][]uint64{{5, 3, 1}, {0, 3, 1}, {5}, {0, 0, p - 1}, nil} {
				pts := onGraph(p, f, xs)
				found(t, p, pts, 2, 1, f, nil)
				for i := range pts {
					changed := slices.Clone(pts)
					changed[i].Y = plus(p, changed[i].Y, 1)
					found(t, p, changed, 2, 1, f, []int{i})
				}
				changed := slices.Clone(pts)
				changed[at].Y = minus(p, changed[at].Y, 1)
				refused(t, p, changed, 2, 0, api.ErrTooManyErrors)
			}
		}
	}
}

func TestAlteredToZero(t *testing.T) { // P8.1
	for _, p := range primes {
		s := sampler{p + 8}
		for range 50 {
			// No value is 0 before the change.
			f := []uint64{1, 0, 1}
			pts := onGraph(p, f, s.distinct(p, 11))
			positions := s.some(11, s.below(5))
			for _, i := range positions {
				pts[i].Y = 0
			}
			found(t, p, pts, 2, 4, f, positions)
		}
	}
}

func TestZeroPolynomial(t *testing.T) { // P8.1
	for _, p := range primes {
		s := sampler{p + 9}
		eachShape(9, func(count, deg, wrong int) {
			pts := onGraph(p, nil, s.distinct(p, count))
			found(t, p, pts, deg, wrong, nil, nil)
			for number := 1; number <= wrong; number++ {
				positions := s.some(count, number)
				found(t, p, s.altered(p, pts, positions), deg, wrong, nil, positions)
			}
		})
	}
}

func TestNoErrorsAllowed(t *testing.T) { // P8.1
	for _, p := range primes {
		s := sampler{p + 10}
		for count := 1; count <= 12; count++ {
			pts := onGraph(p, s.elements(p, count), s.distinct(p, count))
			// As many points as coefficients always lie on one polynomial.
			found(t, p, pts, count-1, 0, through(p, pts), nil)
			for deg := range count - 1 {
				f := s.elements(p, deg+1)
				pts := onGraph(p, f, s.distinct(p, count))
				found(t, p, pts, deg, 0, f, nil)
				for i := range pts {
					refused(t, p, s.altered(p, pts, []int{i}), deg, 0, api.ErrTooManyErrors)
				}
			}
		}
	}
}

func TestAnotherPolynomialWithinTheBound(t *testing.T) { // P8.1
	for _, p := range primes {
		s := sampler{p + 11}
		eachShape(12, func(count, deg, wrong int) {
			f, xs := s.elements(p, deg+1), s.distinct(p, count)
			pts := onGraph(p, f, xs)
			g := slices.Clone(f)
			g[s.below(deg+1)] = s.word() % p
			// All points but wrong are moved from f to g.
			kept := s.some(count, wrong)
			moved := onGraph(p, g, xs)
			for _, i := range kept {
				moved[i] = pts[i]
			}
			found(t, p, moved, deg, wrong, g, errorsOf(p, g, moved))
		})
	}
}

func TestHalfwayBetweenTwoPolynomials(t *testing.T) { // P8.1
	for _, p := range primes {
		for wrong := 1; wrong <= 4; wrong++ {
			// With one point more than necessary, wrong + 1 errors may lie halfway between two polynomials.
			for deg := range 4 {
				count := deg + 2 + 2*wrong
				var pts []api.Point
				g := []uint64{1}
				for i := range deg {
					g = productWith(p, g, uint64(i))
				}
				for i := range count {
					pt := api.Point{X: uint64(i)}
					if i >= deg+1+wrong {
						pt.Y = valueAt(p, g, pt.X)
					}
					pts = append(pts, pt)
				}
				// The zero polynomial has wrong + 1 errors, and so has g.
				if a, b := errorsOf(p, nil, pts), errorsOf(p, g, pts); len(a) != wrong+1 || len(b) != wrong+1 {
					t.Fatalf("the points %d have %d and %d", pts, a, b)
				}
				refused(t, p, pts, deg, wrong, api.ErrTooManyErrors)
				pts[count-1].Y = 0
				found(t, p, pts, deg, wrong, nil, errorsOf(p, nil, pts))
			}
		}
	}
}

// productWith returns f times x - c.
func productWith(p uint64, f []uint64, c uint64) []uint64 {
	result := make([]uint64, len(f)+1)
	for i, coefficient := range f {
		result[i] = minus(p, result[i], times(p, coefficient, c))
		result[i+1] = plus(p, result[i+1], coefficient)
	}
	return result
}

func TestAllElementsOfTheField(t *testing.T) { // P8.1
	s := sampler{12}
	for deg := range 31 {
		for wrong := 0; deg+1+2*wrong <= 31; wrong++ {
			f := s.elements(31, deg+1)
			pts := onGraph(31, f, s.distinct(31, 31))
			for _, number := range []int{0, wrong / 2, wrong} {
				positions := s.some(31, number)
				found(t, 31, s.altered(31, pts, positions), deg, wrong, f, positions)
			}
			refused(t, 31, pts[1:], deg, 15, api.ErrArg)
		}
		refused(t, 31, onGraph(31, nil, s.distinct(31, 31)), deg, 31, api.ErrArg)
	}
	refused(t, 31, onGraph(31, nil, s.distinct(31, 31)), 31, 0, api.ErrArg)
}

func TestLargeCodes(t *testing.T) { // P8.1
	for _, p := range primes[1:] {
		s := sampler{p + 13}
		for _, shape := range [][3]int{{60, 19, 20}, {100, 3, 3}, {100, 99, 0}, {100, 0, 49}, {101, 98, 1}, {120, 60, 25}} {
			count, deg, wrong := shape[0], shape[1], shape[2]
			f := s.elements(p, deg+1)
			pts := onGraph(p, f, s.distinct(p, count))
			for _, number := range []int{0, wrong / 3, wrong} {
				positions := s.some(count, number)
				found(t, p, s.altered(p, pts, positions), deg, wrong, f, positions)
			}
		}
	}
	// Many points for small bounds, with a number of errors just above the bound.
	xs := make([]uint64, 5000)
	for i := range xs {
		xs[i] = uint64(5000 - i)
	}
	pts := onGraph(8191, []uint64{7, 0, 5}, xs)
	pts[17].Y++
	pts[4999].Y++
	found(t, 8191, pts, 3, 2, []uint64{7, 0, 5}, []int{17, 4999})
	pts[0].Y++
	refused(t, 8191, pts, 3, 2, api.ErrTooManyErrors)
	found(t, 8191, pts, 3, 3, []uint64{7, 0, 5}, []int{0, 17, 4999})
}

func TestErrorPositions(t *testing.T) { // P8.2
	for _, p := range primes {
		s := sampler{p + 14}
		for range 300 {
			f := s.elements(p, s.below(6))
			pts := onGraph(p, f, s.elements(p, s.below(15)))
			for i := range pts {
				if s.below(3) == 0 {
					pts[i].Y = s.word() % p
				}
			}
			want := errorsOf(p, f, pts)
			for zeros := range 3 {
				long := append(slices.Clone(f), make([]uint64, zeros)...)
				if got := ErrorPositions(p, long, pts); !slices.Equal(got, want) {
					t.Errorf("ErrorPositions(%d, %d, %d): got %d, want %d", p, long, pts, got, want)
				}
			}
		}
	}
}

func TestEachErrorPosition(t *testing.T) { // P8.2
	for _, p := range primes {
		s := sampler{p + 15}
		for count := range 8 {
			f := s.elements(p, 4)
			pts := onGraph(p, f, s.elements(p, count))
			for set := range 1 << count {
				var want []int
				for i := range count {
					if set>>i&1 == 1 {
						want = append(want, i)
					}
				}
				if got := ErrorPositions(p, f, s.altered(p, pts, want)); !slices.Equal(got, want) {
					t.Errorf("ErrorPositions(%d, %d, ...): got %d, want %d", p, f, got, want)
				}
			}
		}
	}
}

func TestKnownErrorPositions(t *testing.T) { // P8.2
	for _, p := range primes {
		for _, c := range []struct {
			f    []uint64
			pts  []api.Point
			want []int
		}{
			{nil, nil, nil},
			{[]uint64{}, []api.Point{}, nil},
			{[]uint64{1, 2, 3}, nil, nil},
			{[]uint64{0, 0}, nil, nil},
			// The empty polynomial, and other representations of it.
			{nil, pointsOf(0, 1, 0, p-1, 0), []int{1, 3}},
			{[]uint64{0}, pointsOf(0, 1, 0, p-1, 0), []int{1, 3}},
			{[]uint64{0, 0, 0, 0, 0, 0}, pointsOf(0, 1, 0, p-1, 0), []int{1, 3}},
			{nil, []api.Point{{X: 0, Y: 0}, {X: 0, Y: 1}, {X: p - 1, Y: 0}}, []int{1}},
			{[]uint64{1}, pointsOf(0, 1, 0, p-1, 0), []int{0, 2, 3, 4}},
			{[]uint64{1, 0, 0}, pointsOf(0, 1, 0, p-1, 0), []int{0, 2, 3, 4}},
			{[]uint64{p - 1, 1}, pointsOf(0, 1, 2, 3, 4), nil},
			{[]uint64{p - 1, 1, 0}, pointsOf(1, 1, 2, 3, 5), []int{0, 4}},
			{[]uint64{3, p - 1, 1}, []api.Point{{X: 0, Y: 3}, {X: 1, Y: 3}, {X: p - 1, Y: 5}, {X: p - 1, Y: 3}}, []int{3}},
			// Points with the same X: equal ones, and different ones of which at most one is right.
			{[]uint64{0, 1}, []api.Point{{X: 5, Y: 5}, {X: 5, Y: 5}, {X: 5, Y: 6}, {X: 5, Y: 5}, {X: 5, Y: 6}}, []int{2, 4}},
			{[]uint64{0, 1}, []api.Point{{X: 5, Y: 4}, {X: 5, Y: 6}, {X: 5, Y: 0}}, []int{0, 1, 2}},
		} {
			if got := ErrorPositions(p, c.f, c.pts); !slices.Equal(got, c.want) {
				t.Errorf("ErrorPositions(%d, %d, %d): got %d, want %d", p, c.f, c.pts, got, c.want)
			}
		}
	}
}

func TestAlteredPointsAreFound(t *testing.T) { // P8.3
	for _, p := range primes {
		s := sampler{p + 16}
		for range 200 {
			deg, wrong := s.below(6), s.below(6)
			count := deg + 1 + 2*wrong + s.below(4)
			f := s.elements(p, deg+1)
			positions := s.some(count, s.below(wrong+1))
			found(t, p, s.altered(p, onGraph(p, f, s.distinct(p, count)), positions), deg, wrong, f, positions)
		}
	}
}

// sampled returns points of some polynomial of which a number that may exceed the bound by 2 is altered.
func (s *sampler) sampled(p uint64, count, deg, wrong int) []api.Point {
	pts := onGraph(p, s.elements(p, deg+1), s.distinct(p, count))
	return s.altered(p, pts, s.some(count, min(count, s.below(wrong+3))))
}

func TestOrderOfPoints(t *testing.T) { // P8.3
	for _, p := range primes {
		s := sampler{p + 17}
		eachShape(9, func(count, deg, wrong int) {
			pts := s.sampled(p, count, deg, wrong)
			f, positions, errno := Decode(p, pts, deg, wrong)
			for range 3 {
				order := s.some(count, count)
				moved, want := make([]api.Point, count), []int(nil)
				for i, from := range order {
					moved[i] = pts[from]
					if slices.Contains(positions, from) {
						want = append(want, i)
					}
				}
				check(t, p, moved, deg, wrong, answer{f, want, errno})
			}
		})
	}
	// All orders of the chapter's example.
	pts := []api.Point{{X: 1, Y: 2}, {X: 2, Y: 3}, {X: 3, Y: 9}, {X: 4, Y: 5}}
	eachList([]uint64{0, 1, 2, 3}, 4, func(order []uint64) {
		if !slices.Equal(slices.Sorted(slices.Values(order)), []uint64{0, 1, 2, 3}) {
			return
		}
		var moved []api.Point
		for _, i := range order {
			moved = append(moved, pts[i])
		}
		found(t, 31, moved, 1, 1, []uint64{1, 1}, []int{slices.Index(order, 2)})
	})
}

func TestAddedPolynomial(t *testing.T) { // P8.3
	for _, p := range primes {
		s := sampler{p + 18}
		eachShape(9, func(count, deg, wrong int) {
			pts := s.sampled(p, count, deg, wrong)
			f, positions, errno := Decode(p, pts, deg, wrong)
			g := s.elements(p, 1+s.below(deg+1))
			// The negative of the result brings about the zero polynomial.
			negative := make([]uint64, len(f))
			for i, c := range f {
				negative[i] = minus(p, 0, c)
			}
			for _, g := range [][]uint64{g, negative} {
				moved := slices.Clone(pts)
				for i, pt := range pts {
					moved[i].Y = plus(p, pt.Y, valueAt(p, g, pt.X))
				}
				sum := make([]uint64, deg+1)
				copy(sum, f)
				for i, c := range g {
					sum[i] = plus(p, sum[i], c)
				}
				if errno != api.OK {
					sum = nil
				}
				check(t, p, moved, deg, wrong, answer{trim(sum), positions, errno})
			}
		})
	}
}

func TestSmallerErrorBounds(t *testing.T) { // P8.3
	for _, p := range primes {
		s := sampler{p + 19}
		eachShape(13, func(count, deg, wrong int) {
			for number := range wrong + 1 {
				f := s.elements(p, deg+1)
				positions := s.some(count, number)
				pts := s.altered(p, onGraph(p, f, s.distinct(p, count)), positions)
				for bound := range wrong + 1 {
					if bound >= number {
						found(t, p, pts, deg, bound, f, positions)
					} else {
						refused(t, p, pts, deg, bound, api.ErrTooManyErrors)
					}
				}
			}
		})
	}
}

// spare returns a copy of the list with a word behind its end, and a function that reports whether list and word are as they were.
func spare[E comparable](list []E, mark E) ([]E, func() bool) {
	whole := append(slices.Clone(list), mark, mark)
	return whole[:len(list)], func() bool {
		return slices.Equal(whole[:len(list)], list) && whole[len(list)] == mark && whole[len(list)+1] == mark
	}
}

func TestArgumentsAreNotChanged(t *testing.T) { // P8.1, P8.2
	mark := api.Point{X: 29, Y: 30}
	for _, p := range primes {
		s := sampler{p + 20}
		eachShape(8, func(count, deg, wrong int) {
			pts, unchanged := spare(s.sampled(p, count, deg, wrong), mark)
			first, positions, _ := Decode(p, pts, deg, wrong)
			Decode(p, pts, deg, wrong+count)
			if !unchanged() {
				t.Errorf("Decode changes its points, which are now %d", pts)
			}
			g, same := spare(append(s.elements(p, 3), 0), 30)
			list := ErrorPositions(p, g, pts)
			if !unchanged() || !same() {
				t.Errorf("ErrorPositions changes its arguments, which are now %d and %d", g, pts)
			}
			kept, places, others := slices.Clone(first), slices.Clone(positions), slices.Clone(list)
			overwrite(g, 0)
			overwrite(pts, mark)
			if !slices.Equal(first, kept) || !slices.Equal(positions, places) || !slices.Equal(list, others) {
				t.Errorf("results share memory with arguments")
			}
		})
	}
}

// overwrite sets all elements, and those in the spare capacity, to the given one.
func overwrite[E any](list []E, element E) {
	list = list[:cap(list)]
	for i := range list {
		list[i] = element
	}
}

func TestResultsAreNew(t *testing.T) { // P8.1, P8.2
	pts := pointsOf(1, 4, 9, 16, 0, 6, 18)
	f, positions, _ := Decode(31, pts, 2, 2)
	places := ErrorPositions(31, []uint64{0, 0, 1}, pts)
	overwrite(f, 17)
	overwrite(positions, 17)
	overwrite(places, 17)
	found(t, 31, pts, 2, 2, []uint64{0, 0, 1}, []int{4, 5})
}

func TestSameAnswerAtTheSameTime(t *testing.T) { // P8.1
	s := sampler{21}
	pts := s.sampled(8191, 20, 5, 7)
	want := answer{}
	want.f, want.positions, want.errno = Decode(8191, pts, 5, 7)
	var group sync.WaitGroup
	for range 8 {
		group.Add(1)
		go func() {
			defer group.Done()
			for range 20 {
				check(t, 8191, pts, 5, 7, want)
			}
		}()
	}
	group.Wait()
}
