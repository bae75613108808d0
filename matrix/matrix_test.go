package matrix

import (
	"math"
	"math/bits"
	"slices"
	"testing"

	"privity/api"
)

var primes = []uint64{31, 127, 8191, 131071, 524287, 2147483647, 2305843009213693951}

// sampler yields a fixed sequence of words, so that every run tests the same cases.
type sampler struct{ state uint64 }

func (s *sampler) word() uint64 {
	s.state += 0x9e3779b97f4a7c15
	z := s.state
	z = (z ^ z>>30) * 0xbf58476d1ce4e5b9
	z = (z ^ z>>27) * 0x94d049bb133111eb
	return z ^ z>>31
}

// below returns a number below n.
func (s *sampler) below(n int) int { return int(s.word() % uint64(n)) }

func (s *sampler) elements(p uint64, count int) []uint64 {
	list := make([]uint64, count)
	for i := range list {
		list[i] = s.word() % p
	}
	return list
}

func (s *sampler) matrix(p uint64, rows, cols int) [][]uint64 {
	m := make([][]uint64, rows)
	for i := range m {
		m[i] = s.elements(p, cols)
	}
	return m
}

// order returns the numbers below n in some order, and whether an odd number of swaps brings it about.
func (s *sampler) order(n int) ([]int, bool) {
	list, odd := make([]int, n), false
	for i := range list {
		list[i] = i
	}
	for i := range list {
		if j := i + s.below(n-i); j != i {
			list[i], list[j] = list[j], list[i]
			odd = !odd
		}
	}
	return list, odd
}

// plus, minus and times compute modulo p without the code under test and the packages that it calls.
func plus(p, a, b uint64) uint64 {
	low, high := bits.Add64(a, b, 0)
	return bits.Rem64(high, low, p)
}

func minus(p, a, b uint64) uint64 { return plus(p, a, p-b) }

func times(p, a, b uint64) uint64 {
	high, low := bits.Mul64(a, b)
	return bits.Rem64(high, low, p)
}

// dot returns the inner product by its definition.
func dot(p uint64, a, b []uint64) uint64 {
	sum := uint64(0)
	for i := range a {
		sum = plus(p, sum, times(p, a[i], b[i]))
	}
	return sum
}

// applied returns m applied to v by its definition.
func applied(p uint64, m [][]uint64, v []uint64) []uint64 {
	result := make([]uint64, len(m))
	for i, row := range m {
		result[i] = dot(p, row, v)
	}
	return result
}

// transposed returns the transpose of a matrix with the given number of columns.
func transposed(m [][]uint64, cols int) [][]uint64 {
	result := make([][]uint64, cols)
	for j := range result {
		for _, row := range m {
			result[j] = append(result[j], row[j])
		}
	}
	return result
}

// product returns the product of a and b, which has the given number of columns, by its definition.
func product(p uint64, a, b [][]uint64, cols int) [][]uint64 {
	result := make([][]uint64, len(a))
	for i, row := range a {
		result[i] = applied(p, transposed(b, cols), row)
	}
	return result
}

func identity(size int) [][]uint64 {
	m := make([][]uint64, size)
	for i := range m {
		m[i] = make([]uint64, size)
		m[i][i] = 1
	}
	return m
}

// width returns the number of columns; a matrix without rows has none.
func width(m [][]uint64) int {
	if len(m) == 0 {
		return 0
	}
	return len(m[0])
}

// minor returns the determinant of the rows and columns in the two sets, which are equally many, expanded along the first row.
func minor(p uint64, m [][]uint64, rows, cols uint) uint64 {
	if rows == 0 {
		return 1
	}
	i := bits.TrailingZeros(rows)
	sum, negative := uint64(0), false
	for rest := cols; rest != 0; rest &= rest - 1 {
		j := bits.TrailingZeros(rest)
		term := times(p, m[i][j], minor(p, m, rows&^(1<<i), cols&^(1<<j)))
		if negative {
			term = minus(p, 0, term)
		}
		sum, negative = plus(p, sum, term), !negative
	}
	return sum
}

// determinant returns the determinant of a square matrix as its greatest minor.
func determinant(p uint64, m [][]uint64) uint64 {
	all := uint(1)<<len(m) - 1
	return minor(p, m, all, all)
}

// rankOf returns the rank of the first cols columns: the size of the greatest minor that is not 0.
func rankOf(p uint64, m [][]uint64, cols int) int {
	rank := 0
	for r := range uint(1) << len(m) {
		for c := range uint(1) << cols {
			if size := bits.OnesCount(r); size > rank && size == bits.OnesCount(c) && minor(p, m, r, c) != 0 {
				rank = size
			}
		}
	}
	return rank
}

// pivotsOf returns the columns with pivots: those by which the rank of the columns up to them grows.
func pivotsOf(p uint64, m [][]uint64) []int {
	var pivots []int
	for j := range width(m) {
		if rankOf(p, m, j+1) > rankOf(p, m, j) {
			pivots = append(pivots, j)
		}
	}
	return pivots
}

// equal reports two matrices that differ.
func equal(t *testing.T, what string, got, want [][]uint64, args ...any) {
	t.Helper()
	if !slices.EqualFunc(got, want, slices.Equal) {
		t.Errorf("%s %d: got %d, want %d", what, args, got, want)
	}
}

// same reports two lists that differ.
func same(t *testing.T, what string, got, want []uint64, args ...any) {
	t.Helper()
	if !slices.Equal(got, want) {
		t.Errorf("%s %d: got %d, want %d", what, args, got, want)
	}
}

// must reports an error and returns the result.
func must[R any](result R, errno api.Errno) func(t *testing.T) R {
	return func(t *testing.T) R {
		t.Helper()
		if errno != api.OK {
			t.Fatalf("error %d instead of %v", errno, result)
		}
		return result
	}
}

// eachMatrix calls check with all matrices of the given size whose words are among those given.
func eachMatrix(words []uint64, rows, cols int, check func(m [][]uint64)) {
	count := 1
	for range rows * cols {
		count *= len(words)
	}
	for n := range count {
		m := make([][]uint64, rows)
		for i := range m {
			m[i] = make([]uint64, cols)
			for j := range m[i] {
				m[i][j] = words[n%len(words)]
				n /= len(words)
			}
		}
		check(m)
	}
}

// sizes are the sizes of the matrices of which all with a few words are tested.
var sizes = [][2]int{{0, 0}, {1, 0}, {2, 0}, {3, 0}, {1, 1}, {1, 2}, {1, 3}, {1, 4}, {2, 1}, {3, 1}, {4, 1}, {2, 2}, {2, 3}, {3, 2}}

// eachSmallMatrix calls check with all small matrices of few words, over all primes.
func eachSmallMatrix(check func(p uint64, m [][]uint64)) {
	for _, p := range primes {
		for _, size := range sizes {
			eachMatrix([]uint64{0, 1, p - 1}, size[0], size[1], func(m [][]uint64) { check(p, m) })
		}
		eachMatrix([]uint64{0, 1, 2, p - 2, (p + 1) / 2}, 2, 2, func(m [][]uint64) { check(p, m) })
	}
	for _, p := range []uint64{31, 2305843009213693951} {
		eachMatrix([]uint64{0, 1, p - 1}, 3, 3, func(m [][]uint64) { check(p, m) })
	}
}

// eachSample calls check with samples that are small enough for expansion by minors; small words make zeros and small ranks frequent.
func eachSample(check func(p uint64, m [][]uint64)) {
	for _, p := range primes {
		s := sampler{p + 1}
		for range 150 {
			m := s.matrix(p, 1+s.below(4), 1+s.below(4))
			check(p, m)
			for i := range m {
				for j := range m[i] {
					m[i][j] %= 2
				}
			}
			check(p, m)
		}
		for _, size := range [][2]int{{5, 5}, {4, 5}, {5, 4}, {5, 5}, {2, 6}, {6, 2}} {
			check(p, s.matrix(p, size[0], size[1]))
		}
	}
}

// made is a matrix that is made such that everything is known of it: m is the product of an invertible matrix g and an echelon matrix with pivots in the given columns.
type made struct {
	p      uint64
	m, g   [][]uint64
	pivots []int
	det    uint64 // if m is square
}

// makeMatrix returns a matrix of the given size whose pivots are in the given columns.
func (s *sampler) makeMatrix(p uint64, rows, cols int, pivots []int) made {
	echelon, diagonal := make([][]uint64, rows), uint64(1)
	for i := range echelon {
		echelon[i] = make([]uint64, cols)
		if i < len(pivots) {
			copy(echelon[i][pivots[i]:], s.elements(p, cols-pivots[i]))
			echelon[i][pivots[i]] = 1 + s.word()%(p-1)
			diagonal = times(p, diagonal, echelon[i][pivots[i]])
		}
	}
	lower, upper := identity(rows), identity(rows)
	for i := range rows {
		copy(lower[i][:i], s.elements(p, i))
		copy(upper[i][i+1:], s.elements(p, rows-i-1))
	}
	order, odd := s.order(rows)
	g := make([][]uint64, rows)
	for i, row := range product(p, lower, upper, rows) {
		g[order[i]] = row
	}
	det := diagonal
	if odd {
		det = minus(p, 0, det)
	}
	if len(pivots) < rows {
		det = 0
	}
	return made{p, product(p, g, echelon, cols), g, pivots, det}
}

// somePivots returns count of the numbers below cols in increasing order.
func (s *sampler) somePivots(cols, count int) []int {
	order, _ := s.order(cols)
	pivots := order[:count]
	slices.Sort(pivots)
	return pivots
}

// eachMade calls check with matrices of all shapes and ranks.
func eachMade(check func(s *sampler, k made)) {
	for _, p := range primes {
		s := &sampler{p + 2}
		for rows := 1; rows <= 7; rows++ {
			for cols := 1; cols <= 7; cols++ {
				for rank := range min(rows, cols) + 1 {
					check(s, s.makeMatrix(p, rows, cols, s.somePivots(cols, rank)))
				}
			}
		}
		for _, size := range [][3]int{{13, 13, 13}, {13, 13, 12}, {26, 26, 26}, {30, 20, 17}, {20, 30, 20}, {3, 60, 2}, {60, 3, 3}} {
			check(s, s.makeMatrix(p, size[0], size[1], s.somePivots(size[1], size[2])))
		}
	}
}

// ragged are lists of rows that have different lengths, at the start, in the middle and at the end.
var ragged = [][][]uint64{
	{{1}, {1, 2}},
	{{1, 2}, {1}},
	{{}, {1}},
	{{1}, {}},
	{nil, {0}},
	{{0}, nil},
	{{}, {}, {0}},
	{{1}, {1, 2}, {1, 2}},
	{{1, 2, 3}, {1, 2}, {1, 2}},
	{{1, 2}, {1}, {1, 2}},
	{{1, 2}, {1, 2, 3}, {1, 2}},
	{{1, 2}, {1, 2}, {1}},
	{{1, 2}, {1, 2}, {1, 2, 3}},
	{{1, 2}, {}, {1, 2}},
	{{0, 0, 0}, {0, 0, 0}, {0, 0}},
	{{0, 0, 0}, {0, 0}, {0, 0, 0}},
	{{0, 0}, {0, 0, 0}, {0, 0, 0}},
	{{1, 0, 0}, {0, 1}, {1}},
	{{1}, {0, 1}, {0, 0, 1}},
}

func TestMul(t *testing.T) { // P6.1
	for _, p := range primes {
		s := sampler{p}
		for _, size := range [][3]int{{1, 1, 1}, {1, 2, 1}, {2, 1, 2}, {1, 3, 2}, {2, 3, 4}, {4, 3, 2}, {3, 3, 3}, {5, 1, 1}, {1, 1, 5}, {7, 9, 8}, {1, 40, 1}, {3, 1, 40}, {2, 3, 0}, {1, 1, 0}, {13, 13, 13}} {
			for range 5 {
				a, b := s.matrix(p, size[0], size[1]), s.matrix(p, size[1], size[2])
				equal(t, "Mul", must(Mul(p, a, b))(t), product(p, a, b, size[2]), p, a, b)
			}
		}
		// The greatest words, so that sums of products are as large as they get.
		a, b := s.matrix(1, 3, 50), s.matrix(1, 50, 2)
		for i := range 50 {
			a[0][i], a[1][i], a[2][i], b[i][0], b[i][1] = p-1, p-1, 1, p-1, p-2
		}
		want := [][]uint64{{50 % p, 100 % p}, {50 % p, 100 % p}, {minus(p, 0, 50%p), minus(p, 0, 100%p)}}
		equal(t, "Mul of the greatest words", must(Mul(p, a, b))(t), want, p)
	}
}

func TestProductsOfSmallMatrices(t *testing.T) { // P6.1
	for _, p := range []uint64{31, 131071, 2305843009213693951} {
		words := []uint64{0, 1, p - 1}
		eachMatrix(words, 2, 2, func(a [][]uint64) {
			eachMatrix(words, 2, 2, func(b [][]uint64) {
				equal(t, "Mul", must(Mul(p, a, b))(t), product(p, a, b, 2), p, a, b)
			})
		})
	}
}

func TestKnownProducts(t *testing.T) { // P6.1
	for _, p := range primes {
		s := sampler{p + 4}
		m := s.matrix(p, 3, 4)
		equal(t, "1 m", must(Mul(p, identity(3), m))(t), m, p)
		equal(t, "m 1", must(Mul(p, m, identity(4)))(t), m, p)
		equal(t, "swapped rows", must(Mul(p, [][]uint64{{0, 1}, {1, 0}}, m[:2]))(t), [][]uint64{m[1], m[0]}, p)
		equal(t, "a row by a column", must(Mul(p, [][]uint64{{1, 2, p - 1}}, [][]uint64{{5}, {3}, {4}}))(t), [][]uint64{{7}}, p)
		equal(t, "a column by a row", must(Mul(p, [][]uint64{{1}, {p - 1}}, [][]uint64{{5, 3, 0}}))(t), [][]uint64{{5, 3, 0}, {p - 5, p - 3, 0}}, p)
		equal(t, "(1 2; 0 1)^2", must(Mul(p, [][]uint64{{1, 2}, {0, 1}}, [][]uint64{{1, 2}, {0, 1}}))(t), [][]uint64{{1, 4}, {0, 1}}, p)
	}
	equal(t, "modulo 31", must(Mul(31, [][]uint64{{1, 2}, {3, 4}}, [][]uint64{{5, 6}, {7, 8}}))(t), [][]uint64{{19, 22}, {12, 19}})
}

func TestEmptyProducts(t *testing.T) { // P6.1
	for _, p := range primes {
		for _, none := range [][][]uint64{nil, {}} {
			equal(t, "without rows", must(Mul(p, none, nil))(t), nil, p)
			equal(t, "without rows", must(Mul(p, none, [][]uint64{}))(t), nil, p)
			// The inner length is 0, and the factor without rows has no columns.
			equal(t, "without columns", must(Mul(p, [][]uint64{{}}, none))(t), [][]uint64{{}}, p)
			equal(t, "without columns", must(Mul(p, [][]uint64{nil, {}, nil}, none))(t), [][]uint64{{}, {}, {}}, p)
		}
		equal(t, "zero columns", must(Mul(p, [][]uint64{{1, 2}, {3, 4}, {5, 6}}, [][]uint64{{}, nil}))(t), [][]uint64{{}, {}, {}}, p)
		equal(t, "zero columns", must(Mul(p, [][]uint64{{1}}, [][]uint64{{}}))(t), [][]uint64{{}}, p)
	}
}

// refusedProduct reports a product that is not refused.
func refusedProduct(t *testing.T, p uint64, a, b [][]uint64) {
	t.Helper()
	if m, errno := Mul(p, a, b); errno != api.ErrArg || len(m) != 0 {
		t.Errorf("Mul(%d, %d, %d): got %d and error %d, want ErrArg", p, a, b, m, errno)
	}
}

func TestFactorsThatDoNotFit(t *testing.T) { // P6.1
	for _, p := range primes {
		s := sampler{p + 5}
		for n := range 4 * 4 * 4 * 4 {
			a, b := s.matrix(p, n%4, n/4%4), s.matrix(p, n/16%4, n/64)
			if width(a) != len(b) {
				refusedProduct(t, p, a, b)
			} else {
				equal(t, "Mul", must(Mul(p, a, b))(t), product(p, a, b, width(b)), p, a, b)
			}
		}
		for _, m := range ragged {
			for size := range 4 {
				refusedProduct(t, p, m, s.matrix(p, size, 2))
				refusedProduct(t, p, s.matrix(p, 2, size), m)
				refusedProduct(t, p, s.matrix(p, size, len(m)), m)
			}
			refusedProduct(t, p, nil, m)
			refusedProduct(t, p, m, nil)
			for _, other := range ragged {
				refusedProduct(t, p, m, other)
			}
		}
	}
}

func TestApply(t *testing.T) { // P6.1
	for _, p := range primes {
		s := sampler{p + 6}
		for n := range 7 * 7 {
			m := s.matrix(p, n/7, n%7)
			for range 3 {
				v := s.elements(p, width(m))
				same(t, "Apply", must(Apply(p, m, v))(t), applied(p, m, v), p, m, v)
			}
		}
		same(t, "1", must(Apply(p, identity(3), []uint64{p - 1, 0, 5}))(t), []uint64{p - 1, 0, 5}, p)
		same(t, "(1 2; 3 4)", must(Apply(p, [][]uint64{{1, 2}, {3, 4}}, []uint64{p - 1, 2}))(t), []uint64{3, 5}, p)
		same(t, "a row", must(Apply(p, [][]uint64{{p - 1, p - 1, 1}}, []uint64{p - 1, p - 1, 0}))(t), []uint64{2}, p)
		same(t, "a column", must(Apply(p, [][]uint64{{1}, {0}, {p - 1}}, []uint64{p - 2}))(t), []uint64{p - 2, 0, 2}, p)
		many := slices.Repeat([]uint64{p - 1}, 200)
		same(t, "the greatest words", must(Apply(p, [][]uint64{many}, many))(t), []uint64{200 % p}, p)
		for _, none := range [][]uint64{nil, {}} {
			same(t, "no rows", must(Apply(p, nil, none))(t), nil, p)
			same(t, "no rows", must(Apply(p, [][]uint64{}, none))(t), nil, p)
			same(t, "no columns", must(Apply(p, [][]uint64{{}, nil, {}}, none))(t), []uint64{0, 0, 0}, p)
		}
	}
}

func TestApplyToAWrongVector(t *testing.T) { // P6.1
	refused := func(p uint64, m [][]uint64, v []uint64) {
		t.Helper()
		if result, errno := Apply(p, m, v); errno != api.ErrArg || len(result) != 0 {
			t.Errorf("Apply(%d, %d, %d): got %d and error %d, want ErrArg", p, m, v, result, errno)
		}
	}
	for _, p := range primes {
		s := sampler{p + 7}
		for n := range 5 * 5 {
			m := s.matrix(p, n/5, n%5)
			for length := range 8 {
				if length != width(m) {
					refused(p, m, s.elements(p, length))
					refused(p, m, make([]uint64, length))
				}
			}
		}
		for _, m := range ragged {
			for length := range 5 {
				refused(p, m, s.elements(p, length))
			}
		}
	}
}

// checkRank reports a rank that is not the one expected.
func checkRank(t *testing.T, p uint64, m [][]uint64, want int) {
	t.Helper()
	if rank, errno := Rank(p, m); rank != want || errno != api.OK {
		t.Errorf("Rank(%d, %d): got %d and error %d, want %d", p, m, rank, errno, want)
	}
}

// checkSquare reports a wrong determinant or inverse of a square matrix.
func checkSquare(t *testing.T, p uint64, m [][]uint64, want uint64) {
	t.Helper()
	if det, errno := Det(p, m); det != want || errno != api.OK {
		t.Errorf("Det(%d, %d): got %d and error %d, want %d", p, m, det, errno, want)
	}
	inverse, errno := Inverse(p, m)
	if want == 0 {
		if errno != api.ErrZero || len(inverse) != 0 {
			t.Errorf("Inverse(%d, %d): got %d and error %d, want ErrZero", p, m, inverse, errno)
		}
		return
	}
	if errno != api.OK || len(inverse) != len(m) || width(inverse) != len(m) {
		t.Fatalf("Inverse(%d, %d): got %d and error %d", p, m, inverse, errno)
	}
	equal(t, "m times its inverse", product(p, m, inverse, len(m)), identity(len(m)), p, m)
	equal(t, "the inverse of m times m", product(p, inverse, m, len(m)), identity(len(m)), p, m)
	for _, row := range inverse {
		for _, word := range row {
			if word >= p {
				t.Errorf("modulo %d, the inverse %d has words that are no elements", p, inverse)
			}
		}
	}
}

// refusedMatrix reports a determinant or an inverse of a matrix that is not square.
func refusedMatrix(t *testing.T, p uint64, m [][]uint64) {
	t.Helper()
	if det, errno := Det(p, m); errno != api.ErrArg || det != 0 {
		t.Errorf("Det(%d, %d): got %d and error %d, want ErrArg", p, m, det, errno)
	}
	if inverse, errno := Inverse(p, m); errno != api.ErrArg || len(inverse) != 0 {
		t.Errorf("Inverse(%d, %d): got %d and error %d, want ErrArg", p, m, inverse, errno)
	}
}

// checkMatrix reports a rank, a determinant or an inverse that differs from expansion by minors.
func checkMatrix(t *testing.T, p uint64, m [][]uint64) {
	t.Helper()
	checkRank(t, p, m, rankOf(p, m, width(m)))
	if len(m) > 0 && len(m) == width(m) {
		checkSquare(t, p, m, determinant(p, m))
	} else {
		refusedMatrix(t, p, m)
	}
}

func TestRankDetAndInverseByMinors(t *testing.T) { // P6.2
	eachSmallMatrix(func(p uint64, m [][]uint64) { checkMatrix(t, p, m) })
	eachSample(func(p uint64, m [][]uint64) { checkMatrix(t, p, m) })
}

func TestAllMatricesOfSizeTwoModulo31(t *testing.T) { // P6.2
	words := make([]uint64, 31)
	for i := range words {
		words[i] = uint64(i)
	}
	eachMatrix(words, 2, 2, func(m [][]uint64) {
		rank, det := 0, (m[0][0]*m[1][1]+30*m[0][1]*m[1][0])%31
		if m[0][0]+m[0][1]+m[1][0]+m[1][1] > 0 {
			rank = 1
		}
		if det != 0 {
			rank = 2
		}
		checkRank(t, 31, m, rank)
		if got, errno := Det(31, m); got != det || errno != api.OK {
			t.Errorf("Det of %d: got %d and error %d, want %d", m, got, errno, det)
		}
		inverse, errno := Inverse(31, m)
		if det == 0 {
			if errno != api.ErrZero || len(inverse) != 0 {
				t.Errorf("Inverse of %d: got %d and error %d, want ErrZero", m, inverse, errno)
			}
			return
		}
		// The adjugate is the determinant times the inverse.
		for _, row := range inverse {
			for j := range row {
				row[j] = row[j] * det % 31
			}
		}
		equal(t, "the adjugate", inverse, [][]uint64{{m[1][1], (31 - m[0][1]) % 31}, {(31 - m[1][0]) % 31, m[0][0]}}, m)
	})
}

func TestMadeMatrices(t *testing.T) { // P6.2
	eachMade(func(s *sampler, k made) {
		checkRank(t, k.p, k.m, len(k.pivots))
		if len(k.m) == width(k.m) {
			checkSquare(t, k.p, k.m, k.det)
		} else {
			refusedMatrix(t, k.p, k.m)
		}
	})
}

func TestKnownRanks(t *testing.T) { // P6.2
	for _, p := range primes {
		for _, c := range []struct {
			m    [][]uint64
			rank int
		}{
			{nil, 0}, {[][]uint64{}, 0}, {[][]uint64{{}}, 0}, {[][]uint64{{}, nil, {}}, 0},
			{[][]uint64{{0}}, 0}, {[][]uint64{{p - 1}}, 1}, {[][]uint64{{0, 0, 0}}, 0}, {[][]uint64{{0}, {0}, {0}}, 0},
			{[][]uint64{{0, 0, 7}}, 1}, {[][]uint64{{0}, {0}, {7}}, 1}, {[][]uint64{{0, 0}, {0, 0}, {0, 1}}, 1},
			{[][]uint64{{0, 0, 1}, {0, 0, 2}}, 1}, {[][]uint64{{0, 0, 1}, {0, 1, 0}}, 2}, {[][]uint64{{0, 1}, {0, 1}, {1, 0}}, 2},
			{[][]uint64{{0, 0, 0}, {0, 0, 1}, {0, 1, 0}}, 2}, {[][]uint64{{0, 0, 1}, {0, 1, 0}, {1, 0, 0}}, 3},
			{[][]uint64{{1, 2, 3}, {2, 4, 6}}, 1}, {[][]uint64{{1, 2, 3}, {2, 4, 7}}, 2}, {[][]uint64{{1, 1}, {2, 2}, {3, 3}, {4, 5}}, 2},
			{[][]uint64{{1, 2, 3}, {4, 5, 6}, {7, 8, 9}}, 2}, {[][]uint64{{1, p - 1}, {p - 1, 1}}, 1},
		} {
			checkRank(t, p, c.m, c.rank)
		}
		for size := range 20 {
			checkRank(t, p, identity(size), size)
			checkRank(t, p, slices.Repeat([][]uint64{{1, 2, 3}}, size+1), 1)
		}
	}
}

func TestKnownDeterminants(t *testing.T) { // P6.2
	for _, p := range primes {
		for _, c := range []struct {
			m   [][]uint64
			det uint64
		}{
			{[][]uint64{{0}}, 0}, {[][]uint64{{1}}, 1}, {[][]uint64{{p - 1}}, p - 1}, {[][]uint64{{5}}, 5},
			{[][]uint64{{1, 2}, {3, 4}}, p - 2}, {[][]uint64{{3, 4}, {1, 2}}, 2}, {[][]uint64{{0, 1}, {1, 0}}, p - 1},
			{[][]uint64{{1, 2}, {2, 4}}, 0}, {[][]uint64{{0, 0}, {0, 0}}, 0}, {[][]uint64{{0, 1}, {0, 2}}, 0}, {[][]uint64{{0, 2}, {3, 0}}, p - 6},
			// One swap, and two swaps.
			{[][]uint64{{0, 1, 0}, {1, 0, 0}, {0, 0, 1}}, p - 1}, {[][]uint64{{0, 0, 1}, {1, 0, 0}, {0, 1, 0}}, 1},
			{[][]uint64{{0, 1, 0}, {0, 0, 1}, {1, 0, 0}}, 1}, {[][]uint64{{0, 0, 1}, {0, 1, 0}, {1, 0, 0}}, p - 1},
			{[][]uint64{{2, 0, 0}, {0, 0, 3}, {0, 1, 0}}, p - 6}, {[][]uint64{{0, 1, 0, 0}, {1, 0, 0, 0}, {0, 0, 0, 1}, {0, 0, 1, 0}}, 1},
			{[][]uint64{{1, 2, 3}, {4, 5, 6}, {7, 8, 9}}, 0}, {[][]uint64{{1, 2, 3}, {4, 5, 6}, {7, 8, 10}}, p - 3},
			{[][]uint64{{2, 9, 9}, {0, 3, 9}, {0, 0, 4}}, 24}, {[][]uint64{{2, 0, 0}, {9, 3, 0}, {9, 9, 4}}, 24},
		} {
			checkSquare(t, p, c.m, c.det)
		}
		for size := 1; size < 20; size++ {
			checkSquare(t, p, identity(size), 1)
			// A cycle of the rows is as many swaps as there are rows but one.
			m := identity(size)
			cycle := append(m[1:len(m):len(m)], m[0])
			want := uint64(1)
			if size%2 == 0 {
				want = p - 1
			}
			checkSquare(t, p, cycle, want)
			cycle[size-1] = make([]uint64, size)
			checkSquare(t, p, cycle, 0)
		}
	}
}

func TestKnownInverses(t *testing.T) { // P6.2
	for _, p := range primes {
		half := (p + 1) / 2
		for _, c := range [][2][][]uint64{
			{{{1}}, {{1}}}, {{{2}}, {{half}}}, {{{p - 1}}, {{p - 1}}}, {{{0, 1}, {1, 0}}, {{0, 1}, {1, 0}}},
			{{{1, 1}, {0, 1}}, {{1, p - 1}, {0, 1}}}, {{{2, 0}, {0, 1}}, {{half, 0}, {0, 1}}}, {{{0, 2}, {1, 0}}, {{0, 1}, {half, 0}}},
			{{{1, 2}, {3, 4}}, {{p - 2, 1}, {times(p, 3, half), p - half}}},
			{{{0, 1, 0}, {0, 0, 1}, {1, 0, 0}}, {{0, 0, 1}, {1, 0, 0}, {0, 1, 0}}},
		} {
			equal(t, "Inverse", must(Inverse(p, c[0]))(t), c[1], p, c[0])
			equal(t, "Inverse", must(Inverse(p, c[1]))(t), c[0], p, c[1])
		}
	}
}

func TestMatricesThatAreNotSquare(t *testing.T) { // P6.2
	for _, p := range primes {
		s := sampler{p + 8}
		refusedMatrix(t, p, nil)
		for rows := range 6 {
			for cols := range 6 {
				// ErrArg stands before ErrZero: of the second matrix not even the greatest minors are other than 0.
				if rows != cols || rows == 0 {
					refusedMatrix(t, p, s.matrix(p, rows, cols))
					refusedMatrix(t, p, s.matrix(1, rows, cols))
				}
			}
		}
		for _, m := range ragged {
			refusedMatrix(t, p, m)
		}
		// As many rows as the first row has columns, and as many words as a square has.
		refusedMatrix(t, p, [][]uint64{{1, 0}, {0}})
		refusedMatrix(t, p, [][]uint64{{1, 0}, {0, 1, 0}})
		refusedMatrix(t, p, [][]uint64{{1, 0}, {}})
		refusedMatrix(t, p, [][]uint64{{1, 0, 0}, {0, 1}, {0, 0, 1, 0}})
		refusedMatrix(t, p, [][]uint64{{0, 0, 0}, {0, 0}, {0, 0, 0, 0}})
	}
}

func TestRankOfRowsOfDifferentLengths(t *testing.T) { // P6.2
	for _, p := range primes {
		for _, m := range ragged {
			if rank, errno := Rank(p, m); errno != api.ErrArg || rank != 0 {
				t.Errorf("Rank(%d, %d): got %d and error %d, want ErrArg", p, m, rank, errno)
			}
		}
	}
}

// checkSolve reports a wrong answer for a matrix of which the pivots are given: the basic solution is the only one that is 0 beside them.
func checkSolve(t *testing.T, p uint64, m [][]uint64, pivots []int, b []uint64) {
	t.Helper()
	x, errno := Solve(p, m, b)
	if errno == api.ErrNotFound {
		augmented := make([][]uint64, len(m))
		for i, row := range m {
			augmented[i] = slices.Concat(row, b[i:i+1])
		}
		if len(x) != 0 || rankOf(p, augmented, width(m)+1) == len(pivots) {
			t.Errorf("Solve(%d, %d, %d): got %d and ErrNotFound", p, m, b, x)
		}
		return
	}
	if errno != api.OK || len(x) != width(m) {
		t.Fatalf("Solve(%d, %d, %d): got %d and error %d", p, m, b, x, errno)
	}
	same(t, "m applied to the solution", applied(p, m, x), b, p, m, x)
	for j, word := range x {
		if word >= p || word != 0 && !slices.Contains(pivots, j) {
			t.Errorf("Solve(%d, %d, %d): %d is not the basic solution", p, m, b, x)
		}
	}
}

func TestSolveByMinors(t *testing.T) { // P6.3
	eachSmallMatrix(func(p uint64, m [][]uint64) {
		pivots := pivotsOf(p, m)
		eachMatrix([]uint64{0, 1, p - 1}, 1, len(m), func(b [][]uint64) { checkSolve(t, p, m, pivots, b[0]) })
	})
	s := sampler{3}
	eachSample(func(p uint64, m [][]uint64) {
		pivots := pivotsOf(p, m)
		checkSolve(t, p, m, pivots, s.elements(p, len(m)))
		checkSolve(t, p, m, pivots, make([]uint64, len(m)))
		checkSolve(t, p, m, pivots, applied(p, m, s.elements(p, width(m))))
	})
}

func TestSolveOfMadeMatrices(t *testing.T) { // P6.3
	eachMade(func(s *sampler, k made) {
		x := make([]uint64, width(k.m))
		for _, col := range k.pivots {
			x[col] = s.word() % k.p
		}
		b := applied(k.p, k.m, x)
		same(t, "the basic solution", must(Solve(k.p, k.m, b))(t), x, k.p, k.m, b)
		zero := make([]uint64, len(b))
		same(t, "the solution for 0", must(Solve(k.p, k.m, zero))(t), make([]uint64, len(x)), k.p, k.m)
		// The columns of g are independent, and m reaches the combinations of the first of them only, as many as there are pivots.
		for extra := len(k.pivots); extra < len(b); extra++ {
			column := transposed(k.g, len(k.g))[extra]
			for i, word := range column {
				column[i] = plus(k.p, word, b[i])
			}
			if x, errno := Solve(k.p, k.m, column); errno != api.ErrNotFound || len(x) != 0 {
				t.Errorf("Solve(%d, %d, %d): got %d and error %d, want ErrNotFound", k.p, k.m, column, x, errno)
			}
		}
	})
}

func TestKnownSolutions(t *testing.T) { // P6.3
	for _, p := range primes {
		half := (p + 1) / 2
		for _, c := range []struct {
			m    [][]uint64
			b, x []uint64
		}{
			{[][]uint64{{1}}, []uint64{5}, []uint64{5}},
			{[][]uint64{{2}}, []uint64{1}, []uint64{half}},
			{[][]uint64{{1, 2}, {3, 4}}, []uint64{5, 11}, []uint64{1, 2}},
			{[][]uint64{{0, 1}, {1, 0}}, []uint64{4, 5}, []uint64{5, 4}},
			{[][]uint64{{0, 0, 1}, {1, 0, 0}, {0, 1, 0}}, []uint64{7, 8, 9}, []uint64{8, 9, 7}},
			// Several solutions.
			{[][]uint64{{1, 1, 1}}, []uint64{7}, []uint64{7, 0, 0}},
			{[][]uint64{{2, 1}}, []uint64{1}, []uint64{half, 0}},
			{[][]uint64{{1, 2}, {2, 4}}, []uint64{1, 2}, []uint64{1, 0}},
			{[][]uint64{{1, 2, 0}, {0, 0, 1}}, []uint64{3, 4}, []uint64{3, 0, 4}},
			{[][]uint64{{1, 2, 5}, {0, 0, 1}}, []uint64{13, 2}, []uint64{3, 0, 2}},
			{[][]uint64{{0}}, []uint64{0}, []uint64{0}},
			{[][]uint64{{0, 0}, {0, 0}, {0, 0}}, []uint64{0, 0, 0}, []uint64{0, 0}},
			// Pivots that are not in the first columns.
			{[][]uint64{{0, 1, 1}}, []uint64{3}, []uint64{0, 3, 0}},
			{[][]uint64{{0, 0, 2}}, []uint64{1}, []uint64{0, 0, half}},
			{[][]uint64{{0, 0, 1, 0}, {0, 1, 0, 1}}, []uint64{3, 4}, []uint64{0, 4, 3, 0}},
			// More rows than pivots, the first of them 0.
			{[][]uint64{{0, 0}, {1, 2}, {2, 4}, {0, 1}}, []uint64{0, 5, 10, 2}, []uint64{1, 2}},
			{[][]uint64{{0}, {0}, {p - 1}}, []uint64{0, 0, 1}, []uint64{p - 1}},
			{[][]uint64{{1}, {1}, {1}}, []uint64{6, 6, 6}, []uint64{6}},
		} {
			same(t, "Solve", must(Solve(p, c.m, c.b))(t), c.x, p, c.m, c.b)
		}
	}
}

func TestSolveWithoutRowsOrColumns(t *testing.T) { // P6.3
	for _, p := range primes {
		for _, m := range [][][]uint64{nil, {}} {
			same(t, "no rows", must(Solve(p, m, nil))(t), nil, p)
			same(t, "no rows", must(Solve(p, m, []uint64{}))(t), nil, p)
		}
		same(t, "no columns", must(Solve(p, [][]uint64{{}}, []uint64{0}))(t), nil, p)
		same(t, "no columns", must(Solve(p, [][]uint64{nil, {}}, []uint64{0, 0}))(t), nil, p)
		for _, b := range [][]uint64{{1, 0, 0}, {0, p - 1, 0}, {0, 0, 1}, {1, 1, 1}} {
			if x, errno := Solve(p, [][]uint64{{}, nil, {}}, b); errno != api.ErrNotFound || len(x) != 0 {
				t.Errorf("Solve(%d, no columns, %d): got %d and error %d, want ErrNotFound", p, b, x, errno)
			}
		}
	}
}

func TestSystemsWithoutSolution(t *testing.T) { // P6.3
	for _, p := range primes {
		for _, c := range []struct {
			m [][]uint64
			b []uint64
		}{
			{[][]uint64{{0}}, []uint64{1}},
			{[][]uint64{{0, 0, 0}}, []uint64{p - 1}},
			{[][]uint64{{1}, {1}}, []uint64{1, 2}},
			{[][]uint64{{1, 2}, {2, 4}}, []uint64{1, 3}},
			{[][]uint64{{1, 2}, {2, 4}, {0, 0}}, []uint64{3, 6, 1}},
			{[][]uint64{{0, 0}, {1, 2}, {0, 1}}, []uint64{1, 6, 1}},
			{[][]uint64{{1, 0}, {0, 1}, {1, 1}}, []uint64{1, 1, 3}},
			{[][]uint64{{1, 0}, {0, 1}, {1, 1}, {0, 0}}, []uint64{1, 1, 3, 0}},
			{[][]uint64{{0, 1}, {0, 2}}, []uint64{0, 1}},
		} {
			if x, errno := Solve(p, c.m, c.b); errno != api.ErrNotFound || len(x) != 0 {
				t.Errorf("Solve(%d, %d, %d): got %d and error %d, want ErrNotFound", p, c.m, c.b, x, errno)
			}
		}
	}
}

func TestSolveOfWrongArguments(t *testing.T) { // P6.3
	refused := func(p uint64, m [][]uint64, b []uint64) {
		t.Helper()
		if x, errno := Solve(p, m, b); errno != api.ErrArg || len(x) != 0 {
			t.Errorf("Solve(%d, %d, %d): got %d and error %d, want ErrArg", p, m, b, x, errno)
		}
	}
	for _, p := range primes {
		s := sampler{p + 9}
		for n := range 5 * 5 {
			for length := range 8 {
				// ErrArg stands before ErrNotFound: the second system would have no solution anyway.
				if length != n/5 {
					refused(p, s.matrix(p, n/5, n%5), s.elements(p, length))
					refused(p, s.matrix(1, n/5, n%5), slices.Repeat([]uint64{1}, length))
				}
			}
		}
		for _, m := range ragged {
			for length := range 5 {
				refused(p, m, make([]uint64, length))
				refused(p, m, slices.Repeat([]uint64{p - 1}, length))
			}
		}
	}
}

func TestMultiplicationIsAssociative(t *testing.T) { // P6.4
	for _, p := range primes {
		s := sampler{p + 10}
		for n := range 5 * 5 * 5 * 5 {
			// Where a size is 0, factors without rows have no columns either, so that some of these do not fit.
			a, b, c := s.matrix(p, n%5, n/5%5), s.matrix(p, n/5%5, n/25%5), s.matrix(p, n/25%5, n/125)
			if width(a) != len(b) || width(b) != len(c) {
				continue
			}
			left := must(Mul(p, must(Mul(p, a, b))(t), c))(t)
			right := must(Mul(p, a, must(Mul(p, b, c))(t)))(t)
			equal(t, "(a b) c", left, right, p, a, b, c)
			equal(t, "(a b) c", left, product(p, product(p, a, b, width(b)), c, width(c)), p, a, b, c)
		}
	}
}

func TestDeterminantIsMultiplicative(t *testing.T) { // P6.4
	check := func(p uint64, a, b [][]uint64) {
		t.Helper()
		ab := must(Mul(p, a, b))(t)
		if got, want := must(Det(p, ab))(t), times(p, must(Det(p, a))(t), must(Det(p, b))(t)); got != want {
			t.Errorf("modulo %d, the determinant of %d times %d is %d, want %d", p, a, b, got, want)
		}
	}
	for _, p := range primes {
		s := &sampler{p + 11}
		for n := range 7 * 7 {
			for range 3 {
				m := s.matrix(p, 1+n/7, 1+n/7)
				check(p, m, s.matrix(p, 1+n/7, 1+n/7))
				check(p, m, s.makeMatrix(p, 1+n/7, 1+n/7, s.somePivots(1+n/7, s.below(1+n/7))).m)
			}
		}
	}
	words := []uint64{0, 1, 30}
	eachMatrix(words, 2, 2, func(a [][]uint64) {
		eachMatrix(words, 2, 2, func(b [][]uint64) { check(31, a, b) })
	})
}

func TestRankOfAProduct(t *testing.T) { // P6.4
	for _, p := range primes {
		s := &sampler{p + 12}
		for range 300 {
			rows, inner, cols := 1+s.below(6), 1+s.below(6), 1+s.below(6)
			a := s.makeMatrix(p, rows, inner, s.somePivots(inner, s.below(min(rows, inner)+1)))
			b := s.makeMatrix(p, inner, cols, s.somePivots(cols, s.below(min(inner, cols)+1)))
			rank := must(Rank(p, must(Mul(p, a.m, b.m))(t)))(t)
			if rank > must(Rank(p, a.m))(t) || rank > must(Rank(p, b.m))(t) {
				t.Errorf("modulo %d, the product of %d and %d has rank %d", p, a.m, b.m, rank)
			}
			// An invertible factor keeps the rank.
			checkRank(t, p, must(Mul(p, a.g, a.m))(t), len(a.pivots))
		}
		for _, none := range []int{0, 1, 4} {
			checkRank(t, p, must(Mul(p, s.matrix(p, none, 0), nil))(t), 0)
		}
	}
}

func TestTransposedMatrices(t *testing.T) { // P6.4
	check := func(p uint64, m [][]uint64) {
		t.Helper()
		other := transposed(m, width(m))
		checkRank(t, p, other, must(Rank(p, m))(t))
		if len(m) > 0 && len(m) == width(m) {
			if got, want := must(Det(p, other))(t), must(Det(p, m))(t); got != want {
				t.Errorf("modulo %d, the transpose of %d has determinant %d, want %d", p, m, got, want)
			}
		}
	}
	eachSmallMatrix(check)
	eachSample(check)
	eachMade(func(s *sampler, k made) { check(k.p, k.m) })
}

func TestAppendedCombinations(t *testing.T) { // P6.4
	check := func(p uint64, m [][]uint64, factors []uint64) {
		t.Helper()
		combination := applied(p, transposed(m, width(m)), factors)
		rank := must(Rank(p, m))(t)
		checkRank(t, p, append(slices.Clone(m), combination), rank)
		checkRank(t, p, append([][]uint64{combination}, m...), rank)
	}
	eachSmallMatrix(func(p uint64, m [][]uint64) {
		check(p, m, make([]uint64, len(m)))
		check(p, m, slices.Repeat([]uint64{p - 1}, len(m)))
	})
	eachMade(func(s *sampler, k made) { check(k.p, k.m, s.elements(k.p, len(k.m))) })
}

// checkWitness reports a system without solution for which no vector y shows that there is none. Such a y solves a system, too: its inner product with b can be made 1.
func checkWitness(t *testing.T, p uint64, m [][]uint64, b []uint64) {
	t.Helper()
	if _, errno := Solve(p, m, b); errno != api.ErrNotFound {
		return
	}
	system := append(transposed(m, width(m)), b)
	y := must(Solve(p, system, append(make([]uint64, width(m)), 1)))(t)
	same(t, "the transpose applied to y", applied(p, transposed(m, width(m)), y), make([]uint64, width(m)), p, m, b)
	if dot(p, y, b) != 1 {
		t.Errorf("modulo %d, the inner product of %d and %d is not 1", p, y, b)
	}
}

func TestWitnessesOfMissingSolutions(t *testing.T) { // P6.4
	eachSmallMatrix(func(p uint64, m [][]uint64) {
		if len(m)*width(m) > 6 {
			return
		}
		eachMatrix([]uint64{0, 1, p - 1}, 1, len(m), func(b [][]uint64) { checkWitness(t, p, m, b[0]) })
	})
	eachMade(func(s *sampler, k made) { checkWitness(t, k.p, k.m, s.elements(k.p, len(k.m))) })
}

func TestExamples(t *testing.T) {
	checkRank(t, 31, [][]uint64{{1, 2}, {3, 4}}, 2)
	checkSquare(t, 31, [][]uint64{{1, 2}, {3, 4}}, 29)
	same(t, "the solution", must(Solve(31, [][]uint64{{1, 2}, {3, 4}}, []uint64{5, 11}))(t), []uint64{1, 2})
	if x, errno := Solve(31, [][]uint64{{1, 2}, {2, 4}}, []uint64{1, 3}); errno != api.ErrNotFound || len(x) != 0 {
		t.Errorf("got %d and error %d, want ErrNotFound", x, errno)
	}
	same(t, "the basic solution", must(Solve(31, [][]uint64{{1, 2}, {2, 4}}, []uint64{1, 2}))(t), []uint64{1, 0})
}

// spare is how much capacity the lists of withSpare have behind their elements.
const spare = 4

// withSpare returns the list with spare capacity, which holds elements of its own.
func withSpare[E any](list []E, element E) []E {
	memory := append(slices.Clone(list), slices.Repeat([]E{element}, spare)...)
	return memory[:len(list):len(memory)]
}

// rowsWithSpare returns the matrix with spare capacity in each row and behind the rows.
func rowsWithSpare(m [][]uint64) [][]uint64 {
	rows := withSpare(m, []uint64{75, 76})
	for i, row := range rows {
		rows[i] = withSpare(row, 73)
	}
	return rows
}

// wholeMemory returns a copy of the rows, of the rows in the spare capacity behind them, and of the spare capacity of each.
func wholeMemory(m [][]uint64) [][]uint64 {
	rows := slices.Clone(m[:cap(m)])
	for i, row := range rows {
		rows[i] = slices.Clone(row[:cap(row)])
	}
	return rows
}

// overwrite fills the list and its spare capacity.
func overwrite(list []uint64) {
	for i := range list[:cap(list)] {
		list[:cap(list)][i] = 99
	}
}

// overwriteRows fills all rows, and takes the rows themselves away.
func overwriteRows(m [][]uint64) {
	for _, row := range m {
		overwrite(row)
	}
	clear(m[:cap(m)])
}

// checkArguments reports a call that changes an argument, at once or when its result is overwritten.
func checkArguments(t *testing.T, p uint64, m, other [][]uint64, v, b []uint64) {
	t.Helper()
	m, other, v, b = rowsWithSpare(m), rowsWithSpare(other), withSpare(v, 71), withSpare(b, 72)
	lists := func() [][]uint64 {
		return slices.Concat(wholeMemory(m), wholeMemory(other), wholeMemory([][]uint64{v, b}))
	}
	kept := lists()
	ab, _ := Mul(p, m, other)
	overwriteRows(ab)
	equal(t, "the arguments of Mul", lists(), kept, p)
	mv, _ := Apply(p, m, v)
	overwrite(mv)
	equal(t, "the arguments of Apply", lists(), kept, p)
	Rank(p, m)
	equal(t, "the argument of Rank", lists(), kept, p)
	Det(p, m)
	equal(t, "the argument of Det", lists(), kept, p)
	x, _ := Solve(p, m, b)
	overwrite(x)
	equal(t, "the arguments of Solve", lists(), kept, p)
	inverse, _ := Inverse(p, m)
	overwriteRows(inverse)
	equal(t, "the argument of Inverse", lists(), kept, p)
}

func TestArgumentsStayAsTheyAre(t *testing.T) { // rule 5 of the document
	check := func(s *sampler, p uint64, m [][]uint64) {
		t.Helper()
		v := s.elements(p, width(m))
		checkArguments(t, p, m, s.matrix(p, width(m), 3), v, applied(p, m, v))
		checkArguments(t, p, m, s.matrix(p, width(m)+1, 3), s.elements(p, width(m)+1), s.elements(p, len(m)))
		checkArguments(t, p, m, s.matrix(p, 2, 2), v, s.elements(p, len(m)+1))
	}
	eachSmallMatrix(func(p uint64, m [][]uint64) {
		if len(m)*width(m) <= 4 {
			check(&sampler{p + 13}, p, m)
		}
	})
	eachMade(func(s *sampler, k made) { check(s, k.p, k.m) })
	for _, m := range ragged {
		checkArguments(t, 31, m, m, []uint64{1, 2}, []uint64{3, 4})
	}
}

func TestRowsOfAResultShareNoMemory(t *testing.T) {
	for _, p := range primes {
		s := &sampler{p + 14}
		for size := 1; size < 8; size++ {
			k := s.makeMatrix(p, size, size, s.somePivots(size, size))
			for _, call := range []func() [][]uint64{
				func() [][]uint64 { return must(Mul(p, k.m, k.g))(t) },
				func() [][]uint64 { return must(Inverse(p, k.m))(t) },
			} {
				rows, want := call(), call()
				for i, row := range rows {
					same(t, "a row after a change of the rows before it", row, want[i], p, size, i)
					overwrite(row)
				}
			}
		}
	}
}

func TestArgumentsThatShareMemory(t *testing.T) {
	for _, p := range primes {
		row := []uint64{1, 2, p - 1}
		m := [][]uint64{row, row, row}
		checkRank(t, p, m, 1)
		checkSquare(t, p, m, 0)
		same(t, "Apply to a row", must(Apply(p, m, row))(t), slices.Repeat([]uint64{6}, 3), p)
		equal(t, "the square", must(Mul(p, m, m))(t), slices.Repeat([][]uint64{{2, 4, p - 2}}, 3), p)
		same(t, "equal words", must(Solve(p, m, []uint64{4, 4, 4}))(t), []uint64{4, 0, 0}, p)
		if x, errno := Solve(p, m, row); errno != api.ErrNotFound || len(x) != 0 {
			t.Errorf("Solve(%d, %d, %d): got %d and error %d, want ErrNotFound", p, m, row, x, errno)
		}
		// Overlapping pieces of one list.
		list := []uint64{0, 1, 2, 0, 0, 1}
		overlapping := [][]uint64{list[0:3], list[1:4], list[2:5]}
		checkSquare(t, p, overlapping, p-8)
		same(t, "the list", list, []uint64{0, 1, 2, 0, 0, 1}, p)
	}
}

func TestOtherArgumentsEndWithoutPanic(t *testing.T) {
	// Nothing is promised of these answers but that there is one.
	words := []uint64{0, 1, 30, 31, 32, 62, 1 << 61, 1 << 63, math.MaxUint64}
	for _, p := range []uint64{0, 1, 2, 30, 31, 33, 1<<61 - 1, 1 << 61, 1 << 63, math.MaxUint64} {
		s := sampler{p + 15}
		for n := range 500 {
			m := s.matrix(math.MaxUint64, n%5, 1+n/5%4)
			for _, row := range m {
				for j := range row {
					row[j] = words[row[j]%uint64(len(words))]
				}
			}
			Mul(p, m, m)
			Apply(p, m, words[:width(m)])
			Rank(p, m)
			Det(p, m)
			Solve(p, m, words[:len(m)])
			Inverse(p, m)
		}
	}
}
