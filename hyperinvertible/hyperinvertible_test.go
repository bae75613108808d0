package hyperinvertible

import (
	"math"
	"math/bits"
	"slices"
	"testing"

	"privity/api"
	"privity/matrix"
)

var primes = []uint64{31, 127, 8191, 131071, 524287, 2147483647, 2305843009213693951}

// sampler yields a fixed sequence of words, so that every run tests the same cases.
type sampler struct{ state uint64 }

func (s *sampler) word() uint64 {
	s.state += 0x9e3779b97f4a7c15
	z := s.state
	z = (z ^ z>>30) * 0xbf58476d1ce4e5b9
	z = (z ^ z>>27) * 0x94d049bb133111eb
	return z ^ z>>31
}

// below returns a number below n.
func (s *sampler) below(n int) int { return int(s.word() % uint64(n)) }

func (s *sampler) elements(p uint64, count int) []uint64 {
	list := make([]uint64, count)
	for i := range list {
		list[i] = s.word() % p
	}
	return list
}

func (s *sampler) matrix(p uint64, rows, cols int) [][]uint64 {
	m := make([][]uint64, rows)
	for i := range m {
		m[i] = s.elements(p, cols)
	}
	return m
}

// some returns count of the numbers below n in some order.
func (s *sampler) some(n, count int) []int {
	list := make([]int, n)
	for i := range list {
		list[i] = i
	}
	for i := range count {
		j := i + s.below(n-i)
		list[i], list[j] = list[j], list[i]
	}
	return list[:count]
}

// plus, minus, times and inverseOf compute modulo p without the code under test and the packages that it calls.
func plus(p, a, b uint64) uint64 {
	low, high := bits.Add64(a, b, 0)
	return bits.Rem64(high, low, p)
}

func minus(p, a, b uint64) uint64 { return plus(p, a, p-b) }

func times(p, a, b uint64) uint64 {
	high, low := bits.Mul64(a, b)
	return bits.Rem64(high, low, p)
}

// inverseOf returns the inverse of a by Fermat's theorem.
func inverseOf(p, a uint64) uint64 {
	power := uint64(1)
	for e := p - 2; e > 0; e >>= 1 {
		if e&1 == 1 {
			power = times(p, power, a)
		}
		a = times(p, a, a)
	}
	return power
}

// applied returns m applied to v by its definition.
func applied(p uint64, m [][]uint64, v []uint64) []uint64 {
	result := make([]uint64, len(m))
	for i, row := range m {
		for j, word := range row {
			result[i] = plus(p, result[i], times(p, word, v[j]))
		}
	}
	return result
}

// minor returns the determinant of the given rows and columns, which are equally many, expanded along the first row.
func minor(p uint64, m [][]uint64, rows, cols []int) uint64 {
	if len(rows) == 0 {
		return 1
	}
	sum := uint64(0)
	for k, j := range cols {
		term := times(p, m[rows[0]][j], minor(p, m, rows[1:], slices.Concat(cols[:k], cols[k+1:])))
		if k%2 == 1 {
			term = minus(p, 0, term)
		}
		sum = plus(p, sum, term)
	}
	return sum
}

// cauchy returns a matrix of any size below p all of whose square submatrices are invertible, made in another way than by New.
func cauchy(p uint64, rows, cols int) [][]uint64 {
	m := make([][]uint64, rows)
	for i := range m {
		m[i] = make([]uint64, cols)
		for j := range m[i] {
			m[i][j] = inverseOf(p, uint64(i+1+j))
		}
	}
	return m
}

// members returns the members of a set of small numbers in increasing order.
func members(set uint) []int {
	var list []int
	for ; set != 0; set &= set - 1 {
		list = append(list, bits.TrailingZeros(set))
	}
	return list
}

// eachChoice calls use with all sets of count numbers below n.
func eachChoice(n, count int, use func(set []int)) {
	for set := range uint(1) << n {
		if bits.OnesCount(set) == count {
			use(members(set))
		}
	}
}

// eachList calls use with all lists of the given length whose elements are among those given.
func eachList[E any](elements []E, length int, use func(list []E)) {
	if length == 0 {
		use(nil)
		return
	}
	eachList(elements, length-1, func(list []E) {
		for _, element := range elements {
			use(append(slices.Clone(list), element))
		}
	})
}

// eachMatrix calls use with all matrices of the given size whose words are among those given.
func eachMatrix(words []uint64, rows, cols int, use func(m [][]uint64)) {
	eachList(words, rows*cols, func(list []uint64) {
		m := make([][]uint64, rows)
		for i := range m {
			m[i] = list[i*cols : (i+1)*cols]
		}
		use(m)
	})
}

// equal reports two matrices that differ.
func equal(t *testing.T, what string, got, want [][]uint64, args ...any) {
	t.Helper()
	if !slices.EqualFunc(got, want, slices.Equal) {
		t.Errorf("%s %d: got %d, want %d", what, args, got, want)
	}
}

// same reports two lists that differ.
func same(t *testing.T, what string, got, want []uint64, args ...any) {
	t.Helper()
	if !slices.Equal(got, want) {
		t.Errorf("%s %d: got %d, want %d", what, args, got, want)
	}
}

// newMatrix returns the matrix that New returns.
func newMatrix(t *testing.T, p uint64, rows, cols int) [][]uint64 {
	t.Helper()
	m, errno := New(p, rows, cols)
	if errno != api.OK || len(m) != rows || slices.ContainsFunc(m, func(row []uint64) bool { return len(row) != cols }) {
		t.Fatalf("New(%d, %d, %d): got %d and error %d", p, rows, cols, m, errno)
	}
	return m
}

// validNew reports whether New has to return a matrix.
func validNew(p uint64, rows, cols int) bool {
	return 1 <= rows && rows <= 26 && 1 <= cols && cols <= 26 && uint64(rows)+uint64(cols) < p
}

// refusedNew reports a matrix whose size is not refused.
func refusedNew(t *testing.T, p uint64, rows, cols int) {
	t.Helper()
	if m, errno := New(p, rows, cols); errno != api.ErrRange || len(m) != 0 {
		t.Errorf("New(%d, %d, %d): got %d and error %d, want ErrRange", p, rows, cols, m, errno)
	}
}

// checkPolynomials reports a matrix that does not map the values of the powers of x as it should; all polynomials are combinations of these, and no other matrix maps them so.
func checkPolynomials(t *testing.T, p uint64, m [][]uint64, rows, cols int) {
	t.Helper()
	values := slices.Repeat([]uint64{1}, cols+rows)
	for degree := range cols {
		same(t, "the values of a power of x", applied(p, m, values[:cols]), values[cols:], p, rows, cols, degree)
		for i, value := range values {
			values[i] = times(p, value, uint64(i+1))
		}
	}
	for _, row := range m {
		if slices.ContainsFunc(row, func(word uint64) bool { return word >= p }) {
			t.Errorf("New(%d, %d, %d): the row %d has words that are no elements", p, rows, cols, row)
		}
	}
}

func TestNew(t *testing.T) { // P7.1
	for _, p := range primes {
		for rows := -2; rows <= 32; rows++ {
			for cols := -2; cols <= 32; cols++ {
				if validNew(p, rows, cols) {
					checkPolynomials(t, p, newMatrix(t, p, rows, cols), rows, cols)
				} else {
					refusedNew(t, p, rows, cols)
				}
			}
		}
	}
}

func TestNewAtTheEdges(t *testing.T) { // P7.1
	for rows := 4; rows <= 26; rows++ {
		checkPolynomials(t, 31, newMatrix(t, 31, rows, 30-rows), rows, 30-rows)
		refusedNew(t, 31, rows, 31-rows)
	}
	refusedNew(t, 31, 26, 26)
	refusedNew(t, 31, 15, 16)
	refusedNew(t, 31, 16, 15)
	for _, p := range primes[1:] {
		checkPolynomials(t, p, newMatrix(t, p, 26, 26), 26, 26)
		checkPolynomials(t, p, newMatrix(t, p, 26, 1), 26, 1)
		checkPolynomials(t, p, newMatrix(t, p, 1, 26), 1, 26)
	}
	for _, p := range primes {
		equal(t, "1 row and 1 column", newMatrix(t, p, 1, 1), [][]uint64{{1}}, p)
		for _, wrong := range []int{0, -1, -26, 27, 28, 100, 1 << 32, 1<<32 + 1, -1 << 32, math.MaxInt, math.MaxInt - 1, math.MinInt, math.MinInt + 1} {
			for _, other := range []int{1, 2, 4, 26, 0, -1, 27, math.MaxInt, math.MinInt, -wrong, 1 - wrong, 30 - wrong} {
				refusedNew(t, p, wrong, other)
				refusedNew(t, p, other, wrong)
			}
		}
	}
}

func TestKnownMatrices(t *testing.T) { // P7.1
	for _, p := range primes {
		equal(t, "New", newMatrix(t, p, 3, 1), [][]uint64{{1}, {1}, {1}}, p)
		equal(t, "New", newMatrix(t, p, 3, 2), [][]uint64{{p - 1, 2}, {p - 2, 3}, {p - 3, 4}}, p)
		equal(t, "New", newMatrix(t, p, 2, 3), [][]uint64{{1, p - 3, 3}, {3, p - 8, 6}}, p)
		equal(t, "New", newMatrix(t, p, 2, 4), [][]uint64{{p - 1, 4, p - 6, 4}, {p - 4, 15, p - 20, 10}}, p)
		// The differences of order cols are 0, so that the first row has binomial coefficients with alternating signs.
		binomials := []uint64{1, 1}
		for cols := 1; cols <= 26; cols++ {
			want := slices.Clone(binomials[:cols])
			for j := range want {
				if (cols-j)%2 == 0 {
					want[j] = minus(p, 0, want[j])
				}
			}
			equal(t, "the first row", newMatrix(t, p, 1, cols), [][]uint64{want}, p, cols)
			binomials = append(binomials, 1)
			for j := cols; j > 0; j-- {
				binomials[j] = plus(p, binomials[j], binomials[j-1])
			}
		}
	}
}

func TestPolynomialsOfSmallerDegree(t *testing.T) { // P7.1
	for _, p := range primes {
		s := sampler{p}
		for range 200 {
			rows, cols := 1+s.below(14), 1+s.below(14)
			f := s.elements(p, 1+s.below(cols))
			var values []uint64
			for x := range rows + cols {
				value := uint64(0)
				for _, coefficient := range slices.Backward(f) {
					value = plus(p, times(p, value, uint64(x+1)), coefficient)
				}
				values = append(values, value)
			}
			same(t, "the values of a polynomial", applied(p, newMatrix(t, p, rows, cols), values[:cols]), values[cols:], p, rows, cols, f)
		}
	}
}

// checkSubmatrix reports a submatrix that is not the one that the indices define.
func checkSubmatrix(t *testing.T, m [][]uint64, rows, cols []int) {
	t.Helper()
	ok := true
	for _, i := range rows {
		ok = ok && 0 <= i && i < len(m)
		for _, j := range cols {
			ok = ok && 0 <= j && j < len(m[i])
		}
	}
	got, errno := Submatrix(m, rows, cols)
	if !ok {
		if errno != api.ErrArg || len(got) != 0 {
			t.Errorf("Submatrix(%d, %d, %d): got %d and error %d, want ErrArg", m, rows, cols, got, errno)
		}
		return
	}
	want := make([][]uint64, len(rows))
	for k, i := range rows {
		for _, j := range cols {
			want[k] = append(want[k], m[i][j])
		}
	}
	if errno != api.OK {
		t.Errorf("Submatrix(%d, %d, %d): error %d", m, rows, cols, errno)
	}
	equal(t, "Submatrix", got, want, m, rows, cols)
}

// shapes are matrices of several shapes, and lists of rows of different lengths.
var shapes = [][][]uint64{
	nil, {}, {nil}, {{}}, {{}, nil, {}},
	{{1}}, {{1, 2, 3}}, {{1}, {2}, {3}},
	{{1, 2}, {3, 4}}, {{1, 2, 3}, {4, 5, 6}}, {{1, 2}, {3, 4}, {5, 6}},
	{{1, 2, 3}, {4, 5, 6}, {7}}, {{1}, {2, 3}, {4, 5, 6}}, {{1, 2}, {}, {3, 4, 5}}, {nil, {1, 2, 3}}, {{1, 2, 3}, nil}, {{1}, {2, 3}},
	{{math.MaxUint64, 0}, {1 << 63}},
}

func TestSubmatrix(t *testing.T) { // P7.2
	indices := []int{-1, 0, 1, 2, 3}
	for _, m := range shapes {
		for rows := range 4 {
			for cols := range 4 {
				eachList(indices, rows, func(r []int) {
					eachList(indices, cols, func(c []int) { checkSubmatrix(t, m, r, c) })
				})
			}
		}
	}
}

func TestIndicesOfAnyValue(t *testing.T) { // P7.2
	indices := []int{0, 1, math.MaxInt, math.MinInt, math.MaxInt - 1, math.MinInt + 1, 1 << 32, 1<<32 + 1, -1 << 32, 1 << 62, -2}
	for _, m := range shapes {
		for length := range 3 {
			eachList(indices, length, func(list []int) {
				for _, other := range [][]int{nil, {0}, {1}, {0, 1}, {0, 0}} {
					checkSubmatrix(t, m, list, other)
					checkSubmatrix(t, m, other, list)
				}
				checkSubmatrix(t, m, list, list)
			})
		}
	}
}

func TestKnownSubmatrices(t *testing.T) { // P7.2
	m := [][]uint64{{1, 2, 3}, {4, 5}, {6, 7, 8, 9}}
	for _, c := range []struct {
		rows, cols []int
		want       [][]uint64
		errno      api.Errno
	}{
		{nil, nil, nil, api.OK},
		{[]int{}, []int{}, nil, api.OK},
		{[]int{2, 0, 1}, nil, [][]uint64{{}, {}, {}}, api.OK},
		{[]int{2, 0}, []int{2, 0}, [][]uint64{{8, 6}, {3, 1}}, api.OK},
		{[]int{1, 1, 1}, []int{1, 1}, [][]uint64{{5, 5}, {5, 5}, {5, 5}}, api.OK},
		{[]int{2}, []int{3, 0, 3}, [][]uint64{{9, 6, 9}}, api.OK},
		// Out of range for row 1 only, which is selected last, first, alone or not at all.
		{[]int{0, 2, 1}, []int{0, 2}, nil, api.ErrArg},
		{[]int{1, 0, 2}, []int{2, 0}, nil, api.ErrArg},
		{[]int{1}, []int{2}, nil, api.ErrArg},
		{[]int{0, 2, 0}, []int{2}, [][]uint64{{3}, {8}, {3}}, api.OK},
		// Without selected rows there is no row for which an index is out of range.
		{nil, []int{0, 4, -1, math.MaxInt, math.MinInt}, nil, api.OK},
		// An index in rows is out of range whether or not there are columns.
		{[]int{3}, nil, nil, api.ErrArg},
		{[]int{-1}, []int{}, nil, api.ErrArg},
		{[]int{0, 1, 2, 3}, []int{0}, nil, api.ErrArg},
	} {
		got, errno := Submatrix(m, c.rows, c.cols)
		equal(t, "Submatrix", got, c.want, c.rows, c.cols)
		if errno != c.errno {
			t.Errorf("Submatrix(m, %d, %d): error %d, want %d", c.rows, c.cols, errno, c.errno)
		}
	}
}

func TestLargeSubmatrices(t *testing.T) { // P7.2
	s := sampler{1}
	for range 200 {
		m := s.matrix(math.MaxUint64, 1+s.below(60), 1+s.below(60))
		rows, cols := make([]int, s.below(80)), make([]int, s.below(80))
		for k := range rows {
			rows[k] = s.below(len(m))
		}
		for k := range cols {
			cols[k] = s.below(len(m[0]))
		}
		checkSubmatrix(t, m, rows, cols)
		if len(rows) > 0 && len(cols) > 0 {
			cols[s.below(len(cols))] = len(m[0])
			checkSubmatrix(t, m, rows, cols)
			rows[s.below(len(rows))] = len(m)
			checkSubmatrix(t, m, rows, nil)
		}
	}
}

func TestAnErrorNeedsNoMemoryForTheResult(t *testing.T) { // P7.2
	// The result would have a million million words if its last row were longer.
	rows, cols := append(make([]int, 1000000), 1), make([]int, 1000000)
	if got, errno := Submatrix([][]uint64{{1}, {}}, rows, cols); errno != api.ErrArg || len(got) != 0 {
		t.Errorf("got %d rows and error %d, want ErrArg", len(got), errno)
	}
}

// pointsAt returns points with the given indices and with the components there.
func pointsAt(vector []uint64, indices []int) []api.Point {
	var pts []api.Point
	for _, i := range indices {
		pts = append(pts, api.Point{X: uint64(i), Y: vector[i]})
	}
	return pts
}

// without returns the numbers below n that are not in the list, in increasing order.
func without(n int, list []int) []int {
	var rest []int
	for i := range n {
		if !slices.Contains(list, i) {
			rest = append(rest, i)
		}
	}
	return rest
}

// checkCompleted reports an answer of Complete that is not the given vectors.
func checkCompleted(t *testing.T, p uint64, m [][]uint64, x, y []uint64, ins, outs []int) {
	t.Helper()
	gotX, gotY, errno := Complete(p, m, pointsAt(x, ins), pointsAt(y, outs))
	if errno != api.OK || !slices.Equal(gotX, x) || !slices.Equal(gotY, y) {
		t.Errorf("Complete(%d, %d) from inputs %d and outputs %d: got %d, %d and error %d, want %d, %d", p, m, ins, outs, gotX, gotY, errno, x, y)
	}
}

// refusedPoints reports points for which Complete does not return the error.
func refusedPoints(t *testing.T, want api.Errno, p uint64, m [][]uint64, ins, outs []api.Point) {
	t.Helper()
	if x, y, errno := Complete(p, m, ins, outs); errno != want || len(x) != 0 || len(y) != 0 {
		t.Errorf("Complete(%d, %d, %d, %d): got %d, %d and error %d, want error %d", p, m, ins, outs, x, y, errno, want)
	}
}

// checkChoice reports a wrong answer of Complete when the inputs and outputs with the given indices are fixed as in a vector x and its outputs.
func checkChoice(t *testing.T, p uint64, m [][]uint64, x []uint64, ins, outs []int) {
	t.Helper()
	y := applied(p, m, x)
	if minor(p, m, outs, without(len(x), ins)) == 0 {
		refusedPoints(t, api.ErrZero, p, m, pointsAt(x, ins), pointsAt(y, outs))
	} else {
		checkCompleted(t, p, m, x, y, ins, outs)
	}
}

// split divides components, the outputs being counted behind the inputs, into indices of inputs and of outputs.
func split(components []int, cols int) (ins, outs []int) {
	for _, c := range components {
		if c < cols {
			ins = append(ins, c)
		} else {
			outs = append(outs, c-cols)
		}
	}
	return ins, outs
}

// eachFixing calls use with all ways to fix as many components as there are columns.
func eachFixing(rows, cols int, use func(ins, outs []int)) {
	eachChoice(rows+cols, cols, func(set []int) {
		ins, outs := split(set, cols)
		use(ins, outs)
	})
}

func TestCompleteSmallMatrices(t *testing.T) { // P7.3
	for _, p := range primes {
		s := sampler{p + 1}
		for _, size := range [][2]int{{1, 1}, {1, 2}, {2, 1}, {1, 3}, {3, 1}, {2, 2}, {2, 3}, {3, 2}} {
			eachMatrix([]uint64{0, 1, p - 1}, size[0], size[1], func(m [][]uint64) {
				eachFixing(size[0], size[1], func(ins, outs []int) {
					checkChoice(t, p, m, s.elements(p, size[1]), ins, outs)
				})
			})
		}
	}
	words := []uint64{0, 1, 2, 3, 16, 30}
	s := sampler{2}
	eachMatrix(words, 2, 2, func(m [][]uint64) {
		eachFixing(2, 2, func(ins, outs []int) {
			eachList(words, 2, func(x []uint64) { checkChoice(t, 31, m, x, ins, outs) })
			checkChoice(t, 31, m, s.elements(31, 2), ins, outs)
		})
	})
}

func TestCompleteSamples(t *testing.T) { // P7.3
	for _, p := range primes {
		s := sampler{p + 2}
		for range 300 {
			rows, cols := 1+s.below(6), 1+s.below(6)
			m := s.matrix(p, rows, cols)
			if s.below(2) == 0 { // Small words make singular submatrices frequent.
				m = s.matrix(2, rows, cols)
			}
			ins, outs := split(s.some(rows+cols, cols), cols)
			checkChoice(t, p, m, s.elements(p, cols), ins, outs)
		}
	}
}

func TestAllInputsOrAllOutputsAreFixed(t *testing.T) { // P7.3
	for _, p := range primes {
		s := sampler{p + 3}
		for cols := 1; cols <= 7; cols++ {
			for rows := 1; rows <= 7; rows++ {
				// All inputs determine the outputs of any matrix, even of one that is 0.
				for _, m := range [][][]uint64{s.matrix(p, rows, cols), s.matrix(1, rows, cols)} {
					x := s.elements(p, cols)
					checkCompleted(t, p, m, x, applied(p, m, x), s.some(cols, cols), nil)
				}
				if m, x := newMatrix(t, p, rows, cols), s.elements(p, cols); rows >= cols {
					checkCompleted(t, p, m, x, applied(p, m, x), nil, s.some(rows, cols))
				}
			}
			refusedPoints(t, api.ErrZero, p, s.matrix(1, cols, cols), nil, pointsAt(make([]uint64, cols), s.some(cols, cols)))
		}
	}
}

func TestCompleteMatricesOfNew(t *testing.T) { // P7.3, P7.4
	for _, p := range primes {
		s := sampler{p + 4}
		for rows := 1; rows <= 5; rows++ {
			for cols := 1; cols <= 5; cols++ {
				m := newMatrix(t, p, rows, cols)
				eachFixing(rows, cols, func(ins, outs []int) {
					x := s.elements(p, cols)
					checkCompleted(t, p, m, x, applied(p, m, x), ins, outs)
				})
			}
		}
		for range 150 {
			rows, cols := 1+s.below(26), 1+s.below(26)
			if !validNew(p, rows, cols) {
				continue
			}
			m, x := newMatrix(t, p, rows, cols), s.elements(p, cols)
			ins, outs := split(s.some(rows+cols, cols), cols)
			checkCompleted(t, p, m, x, applied(p, m, x), ins, outs)
		}
	}
	for _, p := range primes[1:] {
		s := sampler{p + 5}
		m := newMatrix(t, p, 26, 26)
		for count := range 27 {
			x := s.elements(p, 26)
			checkCompleted(t, p, m, x, applied(p, m, x), s.some(26, 26-count), s.some(26, count))
		}
	}
}

func TestArbitraryValuesOfFixedComponents(t *testing.T) { // P7.3, P7.4
	// The values are not taken from a vector and its outputs: any are possible.
	for _, p := range primes {
		s := sampler{p + 6}
		for range 200 {
			rows, cols := 1+s.below(15), 1+s.below(15)
			m := newMatrix(t, p, rows, cols)
			ins, outs := split(s.some(rows+cols, cols), cols)
			values := s.elements(p, rows+cols)
			x, y, errno := Complete(p, m, pointsAt(values, ins), pointsAt(values, outs))
			if errno != api.OK || len(x) != cols || len(y) != rows {
				t.Fatalf("Complete(%d, New of %d x %d): got %d, %d and error %d", p, rows, cols, x, y, errno)
			}
			same(t, "the outputs", y, applied(p, m, x), p, rows, cols)
			for _, i := range ins {
				same(t, "a fixed input", x[i:i+1], values[i:i+1], p, rows, cols, i)
			}
			for _, i := range outs {
				same(t, "a fixed output", y[i:i+1], values[i:i+1], p, rows, cols, i)
			}
		}
	}
}

// checkDoubledIndices reports indices of which two neighbours are made equal and that are accepted.
func checkDoubledIndices(t *testing.T, p uint64, m [][]uint64, x []uint64, ins, outs []int) {
	t.Helper()
	y := applied(p, m, x)
	for k := 1; k < len(ins); k++ {
		doubled := slices.Clone(ins)
		doubled[k] = ins[k-1]
		refusedPoints(t, api.ErrArg, p, m, pointsAt(x, doubled), pointsAt(y, outs))
	}
	for k := 1; k < len(outs); k++ {
		doubled := slices.Clone(outs)
		doubled[k] = outs[k-1]
		refusedPoints(t, api.ErrArg, p, m, pointsAt(x, ins), pointsAt(y, doubled))
	}
}

func TestMatricesLargerThanThoseOfNew(t *testing.T) { // P7.3
	for _, p := range primes[1:] {
		s := sampler{p + 7}
		for _, size := range [][2]int{{27, 27}, {26, 27}, {27, 26}, {40, 60}, {60, 40}, {52, 53}, {1, 120}, {120, 1}, {3, 52}, {52, 3}, {52, 52}, {3, 105}, {105, 4}} {
			rows, cols := size[0], size[1]
			m := cauchy(p, rows, cols)
			last := make([]int, 0, cols) // the last components, outputs before inputs
			for c := rows + cols - 1; len(last) < cols; c-- {
				last = append(last, c)
			}
			for _, set := range [][]int{last, s.some(rows+cols, cols), s.some(rows+cols, cols), s.some(cols, cols)} {
				x := s.elements(p, cols)
				ins, outs := split(set, cols)
				checkCompleted(t, p, m, x, applied(p, m, x), ins, outs)
				checkDoubledIndices(t, p, m, x, ins, outs)
			}
		}
	}
}

func TestLargeSingularSubmatrices(t *testing.T) { // P7.3
	for _, p := range primes[1:] {
		s := sampler{p + 8}
		for range 40 {
			rows, cols := 2+s.below(50), 2+s.below(50)
			m, x := cauchy(p, rows, cols), s.elements(p, cols)
			count := 2 + s.below(min(rows, cols)-1)
			outs, unknown := s.some(rows, count), s.some(cols, count)
			// Of the first two rows in question one is a multiple of the other, so that these outputs do not determine the inputs.
			for j, word := range m[outs[0]] {
				m[outs[1]][j] = times(p, word, 5)
			}
			y := applied(p, m, x)
			refusedPoints(t, api.ErrZero, p, m, pointsAt(x, without(cols, unknown)), pointsAt(y, outs))
			refusedPoints(t, api.ErrZero, p, m, pointsAt(x, without(cols, unknown)), pointsAt(s.elements(p, rows), outs))
			checkCompleted(t, p, m, x, y, without(cols, unknown[1:]), outs[1:])
		}
		for range 40 {
			rows, cols := 2+s.below(50), 2+s.below(50)
			m, x := cauchy(p, rows, cols), s.elements(p, cols)
			count := 2 + s.below(min(rows, cols)-1)
			outs, unknown := s.some(rows, count), s.some(cols, count)
			// And here one of the columns is a multiple of another.
			for _, row := range m {
				row[unknown[0]] = times(p, row[unknown[1]], p-1)
			}
			y := applied(p, m, x)
			refusedPoints(t, api.ErrZero, p, m, pointsAt(x, without(cols, unknown)), pointsAt(y, outs))
			checkCompleted(t, p, m, x, y, without(cols, unknown[1:]), outs[1:])
		}
	}
}

func TestSingularSubmatrices(t *testing.T) { // P7.3
	for _, p := range primes {
		for _, c := range []struct {
			m         [][]uint64
			ins, outs []api.Point
		}{
			{[][]uint64{{0}}, nil, []api.Point{{X: 0, Y: 0}}},
			{[][]uint64{{0}}, nil, []api.Point{{X: 0, Y: 1}}},
			{[][]uint64{{0, 1}}, []api.Point{{X: 1, Y: 1}}, []api.Point{{X: 0, Y: 1}}},
			{[][]uint64{{0, 1}}, []api.Point{{X: 1, Y: 1}}, []api.Point{{X: 0, Y: 2}}},
			{[][]uint64{{1, 2}, {2, 4}}, nil, []api.Point{{X: 0, Y: 1}, {X: 1, Y: 2}}},
			{[][]uint64{{1, 2}, {2, 4}}, nil, []api.Point{{X: 1, Y: 1}, {X: 0, Y: 2}}},
			{[][]uint64{{1, 2}, {2, 4}}, nil, []api.Point{{X: 1, Y: 0}, {X: 0, Y: 0}}},
			{[][]uint64{{1, p - 1}, {p - 1, 1}}, nil, []api.Point{{X: 0, Y: 0}, {X: 1, Y: 0}}},
			// Only the rows and columns in question count: the matrix is invertible, but this submatrix of it is not.
			{[][]uint64{{0, 1}, {1, 0}}, []api.Point{{X: 0, Y: 3}}, []api.Point{{X: 1, Y: 3}}},
			{[][]uint64{{1, 0, 0}, {0, 1, 0}, {0, 0, 1}}, []api.Point{{X: 2, Y: 3}}, []api.Point{{X: 1, Y: 3}, {X: 2, Y: 3}}},
			{[][]uint64{{1, 2, 9}, {2, 4, 8}, {1, 0, 1}}, []api.Point{{X: 2, Y: 0}}, []api.Point{{X: 0, Y: 3}, {X: 1, Y: 6}}},
		} {
			refusedPoints(t, api.ErrZero, p, c.m, c.ins, c.outs)
		}
		// And the other way round: the matrix is singular, but these components determine all.
		m := [][]uint64{{1, 2, 9}, {2, 4, 8}, {1, 2, 9}}
		x := []uint64{1, 2, 3}
		checkCompleted(t, p, m, x, applied(p, m, x), []int{0}, []int{1, 2})
		checkCompleted(t, p, m, x, applied(p, m, x), []int{2, 1}, []int{0})
		refusedPoints(t, api.ErrZero, p, m, pointsAt(x, []int{2}), pointsAt(applied(p, m, x), []int{0, 1}))
		refusedPoints(t, api.ErrZero, p, m, pointsAt(x, []int{0}), pointsAt(applied(p, m, x), []int{0, 2}))
	}
}

func TestCompleteWithoutRowsOrColumns(t *testing.T) { // P7.3
	point := []api.Point{{X: 0, Y: 0}}
	for _, p := range primes {
		for _, m := range [][][]uint64{nil, {}, {{}}, {nil}, {{}, nil}, {{}, {}, {}}} {
			for _, ins := range [][]api.Point{nil, {}, point} {
				refusedPoints(t, api.ErrArg, p, m, ins, nil)
				refusedPoints(t, api.ErrArg, p, m, nil, ins)
				refusedPoints(t, api.ErrArg, p, m, ins, []api.Point{})
				refusedPoints(t, api.ErrArg, p, m, ins, point)
			}
		}
	}
}

func TestRowsOfDifferentLengths(t *testing.T) { // P7.3
	for _, p := range primes {
		for _, m := range [][][]uint64{
			{{1}, {1, 2}}, {{1, 2}, {1}}, {{}, {1}}, {{1}, {}}, {nil, {0}}, {{0}, nil}, {{}, {}, {0}},
			{{1}, {1, 2}, {1, 2}}, {{1, 2, 3}, {1, 2}, {1, 2}}, {{1, 2}, {1}, {1, 2}}, {{1, 2}, {1, 2, 3}, {1, 2}}, {{1, 2}, {1, 2}, {1}}, {{1, 2}, {1, 2}, {1, 2, 3}},
			{{0, 0, 0}, {0, 0, 0}, {0, 0}}, {{0, 0}, {0, 0}, {0, 0, 0}}, {{1, 0, 0}, {0, 1}, {1}}, {{1}, {0, 1}, {0, 0, 1}},
		} {
			// So many points that their number fits one of the rows, whichever components they fix.
			for count := range 4 {
				for fromIns := range count + 1 {
					vector, indices := []uint64{1, 2, 0}, []int{0, 1, 2}
					refusedPoints(t, api.ErrArg, p, m, pointsAt(vector, indices[:fromIns]), pointsAt(vector, indices[:count-fromIns]))
				}
			}
		}
	}
}

func TestIndicesOutOfRange(t *testing.T) { // P7.3
	for _, p := range primes {
		s := sampler{p + 9}
		for _, size := range [][2]int{{1, 1}, {1, 3}, {3, 1}, {2, 2}, {3, 5}, {5, 3}, {26, 4}, {4, 26}, {15, 15}} {
			rows, cols := size[0], size[1]
			m, x := newMatrix(t, p, rows, cols), s.elements(p, cols)
			for range 10 {
				ins, outs := split(s.some(rows+cols, cols), cols)
				in, out := pointsAt(x, ins), pointsAt(applied(p, m, x), outs)
				for _, beyond := range []uint64{0, 1, 2, 3, uint64(rows), uint64(cols), 25, 26, 51, 52, 1 << 31, 1 << 32, 1<<32 - 5, 1 << 62, 1 << 63, math.MaxInt64 - 3} {
					for k, pt := range in {
						in[k].X = uint64(cols) + beyond
						refusedPoints(t, api.ErrArg, p, m, in, out)
						in[k] = pt
					}
					for k, pt := range out {
						out[k].X = uint64(rows) + beyond
						refusedPoints(t, api.ErrArg, p, m, in, out)
						out[k] = pt
					}
				}
				// Down from the greatest word, where a sum with the number of columns or a conversion becomes small.
				for down := range uint64(60) {
					for _, wrong := range []uint64{math.MaxUint64 - down, 1<<63 + down, 1<<63 - 1 - down} {
						if len(in) > 0 {
							refusedPoints(t, api.ErrArg, p, m, append([]api.Point{{X: wrong, Y: 1}}, in[1:]...), out)
						}
						if len(out) > 0 {
							refusedPoints(t, api.ErrArg, p, m, in, append([]api.Point{{X: wrong, Y: 1}}, out[1:]...))
						}
					}
				}
			}
		}
	}
}

func TestEqualIndices(t *testing.T) { // P7.3
	for _, p := range primes {
		s := sampler{p + 10}
		for _, size := range [][2]int{{2, 2}, {3, 5}, {5, 3}, {14, 15}, {26, 4}} {
			rows, cols := size[0], size[1]
			m, x := newMatrix(t, p, rows, cols), s.elements(p, cols)
			for range 20 {
				ins, outs := split(s.some(rows+cols, cols), cols)
				y := applied(p, m, x)
				for k := range ins {
					other := (k + 1 + s.below(cols)) % len(ins)
					if in := pointsAt(x, ins); other != k {
						in[k].X = in[other].X // with another value, perhaps
						refusedPoints(t, api.ErrArg, p, m, in, pointsAt(y, outs))
						in[k].Y = in[other].Y // with the same value
						refusedPoints(t, api.ErrArg, p, m, in, pointsAt(y, outs))
					}
				}
				for k := range outs {
					other := (k + 1 + s.below(cols)) % len(outs)
					if out := pointsAt(y, outs); other != k {
						out[k].X = out[other].X
						refusedPoints(t, api.ErrArg, p, m, pointsAt(x, ins), out)
						out[k].Y = out[other].Y
						refusedPoints(t, api.ErrArg, p, m, pointsAt(x, ins), out)
					}
				}
			}
			// An index that occurs once in ins and once in outs stands for two components.
			for i := range min(rows, cols) {
				checkCompleted(t, p, m, x, applied(p, m, x), without(cols, []int{(i + 1) % cols}), []int{i})
			}
		}
		m := newMatrix(t, p, 4, 4)
		x := s.elements(p, 4)
		eachChoice(4, 2, func(set []int) { checkCompleted(t, p, m, x, applied(p, m, x), set, set) })
	}
}

func TestTooFewOrTooManyComponents(t *testing.T) { // P7.3
	for _, p := range primes {
		s := sampler{p + 11}
		for _, size := range [][2]int{{1, 1}, {1, 3}, {3, 1}, {2, 2}, {3, 3}, {4, 3}, {3, 4}, {13, 13}} {
			rows, cols := size[0], size[1]
			m := newMatrix(t, p, rows, cols)
			x := s.elements(p, cols)
			for insCount := range cols + 1 {
				for outsCount := range rows + 1 {
					ins, outs := s.some(cols, insCount), s.some(rows, outsCount)
					if insCount+outsCount == cols {
						checkCompleted(t, p, m, x, applied(p, m, x), ins, outs)
						continue
					}
					// The values agree with each other, so that this is not what is wrong.
					refusedPoints(t, api.ErrArg, p, m, pointsAt(x, ins), pointsAt(applied(p, m, x), outs))
				}
			}
		}
	}
}

func TestErrArgStandsBeforeErrZero(t *testing.T) { // P7.3
	for _, p := range primes {
		for _, c := range []struct {
			m         [][]uint64
			ins, outs []api.Point
		}{
			// The submatrix of the rows in outs and the columns not in ins is singular in each.
			{[][]uint64{{0, 0}, {0, 0}}, nil, []api.Point{{X: 0, Y: 0}}},
			{[][]uint64{{0, 0}, {0, 0}}, []api.Point{{X: 0, Y: 0}}, []api.Point{{X: 0, Y: 0}, {X: 1, Y: 0}}},
			{[][]uint64{{0, 0}, {0, 0}}, nil, []api.Point{{X: 0, Y: 0}, {X: 0, Y: 0}}},
			{[][]uint64{{0, 0}, {0, 0}}, nil, []api.Point{{X: 0, Y: 0}, {X: 2, Y: 0}}},
			{[][]uint64{{0, 0}, {0, 0}}, []api.Point{{X: 2, Y: 0}}, []api.Point{{X: 0, Y: 0}}},
			{[][]uint64{{0, 0, 0}, {0, 0, 0}}, []api.Point{{X: 1, Y: 0}, {X: 1, Y: 0}}, []api.Point{{X: 0, Y: 0}}},
			{[][]uint64{{0, 0}, {0}}, nil, []api.Point{{X: 0, Y: 0}, {X: 1, Y: 0}}},
			{[][]uint64{{0, 0}, {0, 0}, {0, 0, 0}}, nil, []api.Point{{X: 0, Y: 0}, {X: 1, Y: 0}}},
			{[][]uint64{{1, 1}, {1, 1}, {}}, nil, []api.Point{{X: 0, Y: 0}, {X: 1, Y: 0}}},
		} {
			refusedPoints(t, api.ErrArg, p, c.m, c.ins, c.outs)
		}
	}
}

func TestThePointsMayStandInAnyOrder(t *testing.T) { // P7.3
	for _, p := range primes {
		s := sampler{p + 12}
		m, x := newMatrix(t, p, 4, 5), s.elements(p, 5)
		y := applied(p, m, x)
		numbers := []int{0, 1, 2, 3}
		eachList(numbers, 3, func(outs []int) {
			if outs[0] == outs[1] || outs[1] == outs[2] || outs[0] == outs[2] {
				return
			}
			checkCompleted(t, p, m, x, y, []int{4, 1}, outs)
			checkCompleted(t, p, m, x, y, []int{1, 4}, outs)
			checkCompleted(t, p, m, x, y, outs, []int{3, 0})
			checkCompleted(t, p, m, x, y, outs, []int{0, 3})
		})
	}
}

// eachSquare calls use with all choices of equally many rows and columns.
func eachSquare(rows, cols int, use func(r, c []int)) {
	for size := 1; size <= min(rows, cols); size++ {
		eachChoice(rows, size, func(r []int) {
			eachChoice(cols, size, func(c []int) { use(r, c) })
		})
	}
}

func TestSquareSubmatricesAreInvertible(t *testing.T) { // P7.4
	check := func(p uint64, m [][]uint64, r, c []int) {
		t.Helper()
		square, errno := Submatrix(m, r, c)
		if errno != api.OK {
			t.Fatalf("Submatrix(%d, %d, %d): error %d", m, r, c, errno)
		}
		if det, errno := matrix.Det(p, square); det == 0 || errno != api.OK {
			t.Errorf("modulo %d, the rows %d and columns %d of %d are singular", p, r, c, m)
		}
		if len(r) <= 4 && minor(p, m, r, c) == 0 {
			t.Errorf("modulo %d, the rows %d and columns %d of %d have determinant 0", p, r, c, m)
		}
	}
	for _, p := range primes {
		for rows := 1; rows <= 5; rows++ {
			for cols := 1; cols <= 5; cols++ {
				m := newMatrix(t, p, rows, cols)
				eachSquare(rows, cols, func(r, c []int) { check(p, m, r, c) })
			}
		}
		s := sampler{p + 13}
		for _, size := range [][2]int{{15, 15}, {4, 26}, {26, 4}, {26, 26}, {20, 26}} {
			if !validNew(p, size[0], size[1]) {
				continue
			}
			m := newMatrix(t, p, size[0], size[1])
			eachSquare(min(size[0], 2), min(size[1], 2), func(r, c []int) { check(p, m, r, c) })
			for count := 1; count <= min(size[0], size[1]); count++ {
				for range 4 {
					check(p, m, s.some(size[0], count), s.some(size[1], count))
				}
			}
		}
	}
	// No word of the largest matrices modulo 31 is 0.
	for rows := 4; rows <= 26; rows++ {
		for _, row := range newMatrix(t, 31, rows, 30-rows) {
			if slices.Contains(row, 0) {
				t.Errorf("New(31, %d, %d) has the row %d", rows, 30-rows, row)
			}
		}
	}
}

// eachVector calls use with all vectors of the given length modulo 31.
func eachVector(length int, use func(v []uint64)) {
	words := make([]uint64, 31)
	for i := range words {
		words[i] = uint64(i)
	}
	eachList(words, length, use)
}

func TestTheRemainingInputsAndEquallyManyOutputs(t *testing.T) { // P7.4
	s := sampler{14}
	for _, size := range [][2]int{{1, 1}, {1, 2}, {2, 1}, {2, 2}, {2, 3}, {3, 3}, {4, 3}, {10, 20}} {
		rows, cols := size[0], size[1]
		m := newMatrix(t, 31, rows, cols)
		for count := 1; count <= min(rows, cols, 2); count++ {
			for range 12 {
				x, free, outs := s.elements(31, cols), s.some(cols, count), s.some(rows, count)
				seen := map[[2]uint64]bool{}
				eachVector(count, func(v []uint64) {
					var image [2]uint64
					for k, j := range free {
						x[j] = v[k]
					}
					y := applied(31, m, x)
					for k, i := range outs {
						image[k] = y[i]
					}
					seen[image] = true
					checkCompleted(t, 31, m, x, y, without(cols, free), outs)
				})
				if want := []int{1, 31, 31 * 31}[count]; len(seen) != want {
					t.Errorf("the inputs %d give the outputs %d %d values, want %d", free, outs, len(seen), want)
				}
			}
		}
	}
}

// different returns the number of places at which two lists differ.
func different(a, b []uint64) int {
	count := 0
	for i := range a {
		if a[i] != b[i] {
			count++
		}
	}
	return count
}

func TestDistinctInputsDifferInMoreComponentsThanRows(t *testing.T) { // P7.4
	check := func(p uint64, m [][]uint64, a, b []uint64) {
		t.Helper()
		extendedA, extendedB := slices.Concat(a, applied(p, m, a)), slices.Concat(b, applied(p, m, b))
		if !slices.Equal(a, b) && different(extendedA, extendedB) <= len(m) {
			t.Errorf("modulo %d, with %d rows: %d and %d are too similar", p, len(m), extendedA, extendedB)
		}
	}
	for _, rows := range []int{1, 2, 3, 5, 13, 26} {
		m := newMatrix(t, 31, rows, 2)
		eachVector(2, func(a []uint64) { check(31, m, a, []uint64{7, 30}) })
		m = newMatrix(t, 31, rows, 3)
		eachVector(3, func(a []uint64) { check(31, m, a, []uint64{0, 0, 0}) })
	}
	for _, p := range primes {
		s := sampler{p + 15}
		for range 200 {
			rows, cols := 1+s.below(15), 1+s.below(15)
			m, a := newMatrix(t, p, rows, cols), s.elements(p, cols)
			check(p, m, a, s.elements(p, cols))
			b := slices.Clone(a)
			b[s.below(cols)] = s.word() % p
			check(p, m, a, b)
		}
	}
}

func TestTheLeastDifference(t *testing.T) { // P7.4
	// Vectors that agree in one component less than there are columns, and not in one further, agree in no other.
	for _, p := range primes {
		s := sampler{p + 16}
		for range 100 {
			rows, cols := 1+s.below(15), 1+s.below(15)
			m, a := newMatrix(t, p, rows, cols), s.elements(p, cols)
			extended := slices.Concat(a, applied(p, m, a))
			set := s.some(rows+cols, cols)
			ins, outs := split(set, cols)
			changed := slices.Clone(extended)
			changed[set[0]] = (changed[set[0]] + 1) % p
			x, y, errno := Complete(p, m, pointsAt(changed[:cols], ins), pointsAt(changed[cols:], outs))
			if errno != api.OK {
				t.Fatalf("Complete(%d, New of %d x %d): error %d", p, rows, cols, errno)
			}
			if got := different(slices.Concat(x, y), extended); got != rows+1 {
				t.Errorf("modulo %d, with %d rows: %d components differ", p, rows, got)
			}
		}
	}
}

func TestExamples(t *testing.T) {
	m := newMatrix(t, 31, 1, 2)
	equal(t, "New", m, [][]uint64{{30, 2}})
	checkCompleted(t, 31, m, []uint64{3, 5}, []uint64{7}, []int{0, 1}, nil)
	checkCompleted(t, 31, m, []uint64{3, 5}, []uint64{7}, []int{0}, []int{0})
	checkCompleted(t, 31, m, []uint64{3, 5}, []uint64{7}, []int{1}, []int{0})
}

// spare is how much capacity the lists of withSpare have behind their elements.
const spare = 4

// withSpare returns the list with spare capacity, which holds elements of its own.
func withSpare[E any](list []E, element E) []E {
	memory := append(slices.Clone(list), slices.Repeat([]E{element}, spare)...)
	return memory[:len(list):len(memory)]
}

// rowsWithSpare returns the matrix with spare capacity in each row and behind the rows.
func rowsWithSpare(m [][]uint64) [][]uint64 {
	rows := withSpare(m, []uint64{75, 76})
	for i, row := range rows {
		rows[i] = withSpare(row, 73)
	}
	return rows
}

// wholeMemory returns a copy of the rows, of the rows in the spare capacity behind them, and of the spare capacity of each.
func wholeMemory(m [][]uint64) [][]uint64 {
	rows := slices.Clone(m[:cap(m)])
	for i, row := range rows {
		rows[i] = slices.Clone(row[:cap(row)])
	}
	return rows
}

// whole returns a copy of the list and its spare capacity.
func whole[E any](list []E) []E { return slices.Clone(list[:cap(list)]) }

// overwrite fills the list and its spare capacity.
func overwrite(list []uint64) {
	for i := range list[:cap(list)] {
		list[:cap(list)][i] = 99
	}
}

// overwriteRows fills all rows, and takes the rows themselves away.
func overwriteRows(m [][]uint64) {
	for _, row := range m {
		overwrite(row)
	}
	clear(m[:cap(m)])
}

// checkSubmatrixArguments reports a call of Submatrix that changes an argument, at once or when its result is overwritten.
func checkSubmatrixArguments(t *testing.T, m [][]uint64, rows, cols []int) {
	t.Helper()
	m, rows, cols = rowsWithSpare(m), withSpare(rows, 71), withSpare(cols, 72)
	keptM, keptRows, keptCols := wholeMemory(m), whole(rows), whole(cols)
	result, _ := Submatrix(m, rows, cols)
	overwriteRows(result)
	equal(t, "the matrix after Submatrix", wholeMemory(m), keptM, rows, cols)
	if !slices.Equal(whole(rows), keptRows) || !slices.Equal(whole(cols), keptCols) {
		t.Errorf("Submatrix has made %d and %d of %d and %d", whole(rows), whole(cols), keptRows, keptCols)
	}
}

// checkCompleteArguments reports a call of Complete that changes an argument, at once or when its results are overwritten.
func checkCompleteArguments(t *testing.T, p uint64, m [][]uint64, ins, outs []api.Point) {
	t.Helper()
	m, ins, outs = rowsWithSpare(m), withSpare(ins, api.Point{X: 70, Y: 71}), withSpare(outs, api.Point{X: 72, Y: 73})
	keptM, keptIns, keptOuts := wholeMemory(m), whole(ins), whole(outs)
	x, y, _ := Complete(p, m, ins, outs)
	overwrite(x)
	overwrite(y)
	equal(t, "the matrix after Complete", wholeMemory(m), keptM, p)
	if !slices.Equal(whole(ins), keptIns) || !slices.Equal(whole(outs), keptOuts) {
		t.Errorf("Complete has made %d and %d of %d and %d", whole(ins), whole(outs), keptIns, keptOuts)
	}
}

func TestArgumentsStayAsTheyAre(t *testing.T) { // rule 5 of the document
	indices := []int{-1, 0, 1, 2}
	for _, m := range shapes {
		for length := range 3 {
			eachList(indices, length, func(list []int) {
				checkSubmatrixArguments(t, m, list, []int{0})
				checkSubmatrixArguments(t, m, []int{0, 0}, list)
				checkSubmatrixArguments(t, m, list, list)
			})
		}
	}
	for _, p := range primes {
		s := sampler{p + 17}
		for _, m := range shapes {
			checkCompleteArguments(t, p, m, []api.Point{{X: 1, Y: 5}}, []api.Point{{X: 0, Y: 6}})
			checkCompleteArguments(t, p, m, nil, nil)
		}
		for range 100 {
			rows, cols := 1+s.below(10), 1+s.below(10)
			ins, outs := split(s.some(rows+cols, cols), cols)
			values := s.elements(p, rows+cols)
			checkCompleteArguments(t, p, newMatrix(t, p, rows, cols), pointsAt(values, ins), pointsAt(values, outs))
			checkCompleteArguments(t, p, s.matrix(2, rows, cols), pointsAt(values, ins), pointsAt(values, outs))
		}
	}
}

func TestResultsShareNoMemory(t *testing.T) {
	for _, p := range primes {
		s := sampler{p + 18}
		for range 30 {
			rows, cols := 1+s.below(8), 1+s.below(8)
			m, again := newMatrix(t, p, rows, cols), newMatrix(t, p, rows, cols)
			part, errno := Submatrix(again, []int{0, 0, rows - 1}, []int{0, 0, cols - 1})
			want := wholeMemory(part)
			if errno != api.OK {
				t.Fatalf("Submatrix of %d: error %d", again, errno)
			}
			for i, row := range m {
				same(t, "a row after a change of the rows before it", row, again[i], p, rows, cols)
				overwrite(row)
			}
			for i, row := range part {
				same(t, "a row after a change of the rows before it", row, want[i][:len(row)], p, rows, cols)
				overwrite(row)
			}
			values := s.elements(p, cols)
			x, y, errno := Complete(p, again, pointsAt(values, s.some(cols, cols)), nil)
			if errno != api.OK {
				t.Fatalf("Complete of %d: error %d", again, errno)
			}
			overwrite(x)
			same(t, "the outputs after a change of the inputs", y, applied(p, again, values), p, rows, cols)
		}
	}
}

func TestOtherArgumentsEndWithoutPanic(t *testing.T) {
	// Nothing is promised of these answers but that there is one.
	words := []uint64{0, 1, 2, 30, 31, 32, 62, 1 << 61, 1 << 63, math.MaxUint64}
	for _, p := range []uint64{0, 1, 2, 3, 4, 6, 12, 30, 31, 32, 33, 60, 1<<61 - 1, 1 << 61, 1 << 63, math.MaxUint64} {
		for rows := -1; rows <= 27; rows++ {
			for cols := -1; cols <= 27; cols += 4 {
				New(p, rows, cols)
			}
		}
		s := sampler{p + 19}
		for range 1000 {
			rows, cols := 1+s.below(5), 1+s.below(5)
			m, values := s.matrix(math.MaxUint64, rows, cols), s.elements(math.MaxUint64, rows+cols)
			for _, list := range append(slices.Clone(m), values) {
				for j := range list {
					list[j] = words[list[j]%uint64(len(words))]
				}
			}
			ins, outs := split(s.some(rows+cols, cols), cols)
			Complete(p, m, pointsAt(values, ins), pointsAt(values, outs))
		}
	}
}
