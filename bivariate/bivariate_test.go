package bivariate

import (
	"math"
	"math/bits"
	"slices"
	"sync"
	"testing"

	"privity/api"
)

var primes = []uint64{31, 127, 8191, 131071, 524287, 2147483647, 2305843009213693951}

// sampler yields a fixed sequence of words, so that every run tests the same cases.
type sampler struct{ state uint64 }

func (s *sampler) word() uint64 {
	s.state += 0x9e3779b97f4a7c15
	z := s.state
	z = (z ^ z>>30) * 0xbf58476d1ce4e5b9
	z = (z ^ z>>27) * 0x94d049bb133111eb
	return z ^ z>>31
}

// below returns a number below n.
func (s *sampler) below(n int) int { return int(s.word() % uint64(n)) }

func (s *sampler) elements(p uint64, count int) []uint64 {
	list := make([]uint64, count)
	for i := range list {
		list[i] = s.word() % p
	}
	return list
}

// abscissas returns different elements of the field in some order.
func (s *sampler) abscissas(p uint64, count int) []uint64 {
	var list []uint64
	for len(list) < count {
		if x := s.word() % p; !slices.Contains(list, x) {
			list = append(list, x)
		}
	}
	return list
}

// parties returns different elements of the field other than 0 in some order.
func (s *sampler) parties(p uint64, count int) []uint64 {
	var list []uint64
	for len(list) < count {
		if x := 1 + s.word()%(p-1); !slices.Contains(list, x) {
			list = append(list, x)
		}
	}
	return list
}

// matrix returns a square matrix of any elements.
func (s *sampler) matrix(p uint64, size int) [][]uint64 {
	m := make([][]uint64, size)
	for i := range m {
		m[i] = s.elements(p, size)
	}
	return m
}

// symmetric returns a symmetric matrix.
func (s *sampler) symmetric(p uint64, size int) [][]uint64 {
	m := s.matrix(p, size)
	for i := range m {
		for j := range i {
			m[i][j] = m[j][i]
		}
	}
	return m
}

// plus, minus, times and inverseOf compute modulo p without the code under test and the packages that it calls.
func plus(p, a, b uint64) uint64 {
	low, high := bits.Add64(a, b, 0)
	return bits.Rem64(high, low, p)
}

func minus(p, a, b uint64) uint64 { return plus(p, a, p-b) }

func times(p, a, b uint64) uint64 {
	high, low := bits.Mul64(a, b)
	return bits.Rem64(high, low, p)
}

// powerOf returns a to the power of e.
func powerOf(p, a uint64, e uint64) uint64 {
	power := uint64(1)
	for ; e > 0; e >>= 1 {
		if e&1 == 1 {
			power = times(p, power, a)
		}
		a = times(p, a, a)
	}
	return power
}

// inverseOf returns the inverse of a by Fermat's theorem.
func inverseOf(p, a uint64) uint64 { return powerOf(p, a, p-2) }

// valueAt returns f(x) as the sum of its terms.
func valueAt(p uint64, f []uint64, x uint64) uint64 {
	sum := uint64(0)
	for i, c := range f {
		sum = plus(p, sum, times(p, c, powerOf(p, x, uint64(i))))
	}
	return sum
}

// valueOf returns S(x, y) as the sum of its terms.
func valueOf(p uint64, s [][]uint64, x, y uint64) uint64 {
	sum := uint64(0)
	for i, row := range s {
		for j, c := range row {
			sum = plus(p, sum, times(p, c, times(p, powerOf(p, x, uint64(i)), powerOf(p, y, uint64(j)))))
		}
	}
	return sum
}

// rowOf returns the row of s at x by the definition.
func rowOf(p uint64, s [][]uint64, x uint64) []uint64 {
	row := make([]uint64, len(s))
	for j := range row {
		for i := range s {
			row[j] = plus(p, row[j], times(p, s[i][j], powerOf(p, x, uint64(i))))
		}
	}
	return row
}

// rowsOf returns the rows of s at the points.
func rowsOf(p uint64, s [][]uint64, xs []uint64) [][]uint64 {
	rows := make([][]uint64, len(xs))
	for i, x := range xs {
		rows[i] = rowOf(p, s, x)
	}
	return rows
}

// equalsTransposed reports whether s has at least one row, is square and equals its transposed matrix, by the definition.
func equalsTransposed(s [][]uint64) bool {
	for _, row := range s {
		if len(row) != len(s) {
			return false
		}
	}
	for i := range s {
		for j := range s {
			if s[i][j] != s[j][i] {
				return false
			}
		}
	}
	return len(s) > 0
}

// moved returns s plus d z z^T.
func moved(p uint64, s [][]uint64, d uint64, z []uint64) [][]uint64 {
	m := copied(s)
	for i := range m {
		for j := range m {
			m[i][j] = plus(p, m[i][j], times(p, d, times(p, z[i], z[j])))
		}
	}
	return m
}

// vanishing returns the polynomial that is 0 at the given points, which are not 0, and 1 at 0.
func vanishing(p uint64, xs []uint64) []uint64 {
	z := []uint64{1}
	for _, c := range xs {
		// z times 1 - x / c
		factor := minus(p, 0, inverseOf(p, c))
		next := append(slices.Clone(z), 0)
		for i, coefficient := range z {
			next[i+1] = plus(p, next[i+1], times(p, coefficient, factor))
		}
		z = next
	}
	return z
}

// agreePairwise reports whether any two of the rows agree at their points, by the definition.
func agreePairwise(p uint64, xs []uint64, rows [][]uint64) bool {
	for i, x := range xs {
		for j, y := range xs {
			if valueAt(p, rows[i], y) != valueAt(p, rows[j], x) {
				return false
			}
		}
	}
	return true
}

// copied returns a copy that shares no row with the matrix.
func copied(m [][]uint64) [][]uint64 {
	rows := make([][]uint64, len(m))
	for i, row := range m {
		rows[i] = slices.Clone(row)
	}
	return rows
}

// rowsFrom cuts the words into rows of the given length.
func rowsFrom(words []uint64, length int) [][]uint64 {
	return slices.Collect(slices.Chunk(words, length))
}

// eachList calls use with all lists of the given length whose elements are among those given.
func eachList[E any](elements []E, length int, use func(list []E)) {
	if length == 0 {
		use(nil)
		return
	}
	eachList(elements, length-1, func(list []E) {
		for _, element := range elements {
			use(append(slices.Clone(list), element))
		}
	})
}

// eachChoice calls use with all choices of count of the elements.
func eachChoice(list []uint64, count int, use func(chosen []uint64)) {
	for set := range uint(1) << len(list) {
		if bits.OnesCount(set) != count {
			continue
		}
		var chosen []uint64
		for rest := set; rest != 0; rest &= rest - 1 {
			chosen = append(chosen, list[bits.TrailingZeros(rest)])
		}
		use(chosen)
	}
}

// upTo returns the numbers from first to last.
func upTo(first, last uint64) []uint64 {
	var list []uint64
	for x := first; x <= last; x++ {
		list = append(list, x)
	}
	return list
}

// edges returns the smallest and the greatest elements of the field and some others.
func edges(p uint64) []uint64 { return []uint64{0, 1, 2, 7, p / 2, p/2 + 1, p - 2, p - 1} }

// sameRows compares the rows one by one; empty rows may be nil or not.
func sameRows(a, b [][]uint64) bool {
	return slices.EqualFunc(a, b, func(x, y []uint64) bool { return slices.Equal(x, y) })
}

// checkMatrix reports a matrix other than the wanted one.
func checkMatrix(t *testing.T, name string, got, want [][]uint64, arguments ...any) {
	t.Helper()
	if !sameRows(got, want) {
		t.Errorf("%s of %d: got %d, want %d", name, arguments, got, want)
	}
}

func TestExamples(t *testing.T) { // P10.1, P10.2
	s, errno := New([]uint64{5, 2}, []uint64{3})
	if errno != api.OK || !sameRows(s, [][]uint64{{5, 2}, {2, 3}}) {
		t.Fatalf("New: got %d and error %d", s, errno)
	}
	if got := Row(31, s, 1); !slices.Equal(got, []uint64{7, 5}) {
		t.Errorf("the row at 1: got %d", got)
	}
	if got := Eval(31, s, 1, 2); got != 17 {
		t.Errorf("S(1, 2): got %d", got)
	}
}

func TestIsSymmetricKnown(t *testing.T) { // P10.1
	const most = math.MaxUint64
	for _, c := range []struct {
		s    [][]uint64
		want bool
	}{
		{nil, false},
		{[][]uint64{}, false},
		{[][]uint64{nil}, false},
		{[][]uint64{{}}, false},
		{[][]uint64{{}, {}}, false},
		{[][]uint64{{0}}, true},
		{[][]uint64{{most}}, true},
		{[][]uint64{{1, 2}}, false},
		{[][]uint64{{1}, {1}}, false},
		{[][]uint64{{1}, {}}, false},
		{[][]uint64{{}, {1}}, false},
		{[][]uint64{{0, 0}, {0, 0}}, true},
		{[][]uint64{{1, 2}, {2, 1}}, true},
		{[][]uint64{{1, 2}, {2, 9}}, true},
		{[][]uint64{{1, 2}, {3, 1}}, false},
		{[][]uint64{{1, 2}, {1, 2}}, false},
		{[][]uint64{{1, 2}, {2}}, false},
		{[][]uint64{{1}, {2, 3}}, false},
		{[][]uint64{{1, 2}, {}}, false},
		{[][]uint64{{1, 2}, nil}, false},
		{[][]uint64{{1, 2}, {2, 3, 4}}, false},
		{[][]uint64{{1, 2, 4}, {2, 3}}, false},
		{[][]uint64{{1, 2, 0}, {2, 3, 0}}, false},
		{[][]uint64{{1, 2}, {2, 3}, {0, 0}}, false},
		{[][]uint64{{1, 2, 3}, {2, 4, 5}, {3, 5, 6}}, true},
		{[][]uint64{{1, 2, 3}, {2, 4, 5}, {3, 5}}, false},
		{[][]uint64{{1, 2, 3}, {2, 4, 5}, {3, 5, 6, 7}}, false},
		{[][]uint64{{1, 2, 3}, {2, 4, 5}, {3, 6, 6}}, false},
		{[][]uint64{{1, most}, {most, 0}}, true},
		{[][]uint64{{1, most}, {most - 1, 0}}, false},
		// Equal modulo every prime is not equal.
		{[][]uint64{{1, 31}, {0, 1}}, false},
		{[][]uint64{{1, 1 << 32}, {0, 1}}, false},
	} {
		if got := IsSymmetric(c.s); got != c.want {
			t.Errorf("IsSymmetric(%d): got %t", c.s, got)
		}
	}
}

func TestIsSymmetricShapes(t *testing.T) { // P10.1
	for count := range 5 {
		eachList([]int{0, 1, 2, 3, 4, 5}, count, func(lengths []int) {
			s := make([][]uint64, count)
			want := count > 0
			for i, length := range lengths {
				s[i] = make([]uint64, length)
				want = want && length == count
			}
			if got := IsSymmetric(s); got != want {
				t.Errorf("IsSymmetric of %d rows with the lengths %d: got %t", count, lengths, got)
			}
		})
	}
}

func TestIsSymmetricOfAllSmallMatrices(t *testing.T) { // P10.1
	for size, values := range map[int][]uint64{1: upTo(0, 40), 2: upTo(0, 6), 3: upTo(0, 2), 4: upTo(0, 1)} {
		eachList(values, size*size, func(words []uint64) {
			s := rowsFrom(words, size)
			if got := IsSymmetric(s); got != equalsTransposed(s) {
				t.Errorf("IsSymmetric(%d): got %t", s, got)
			}
		})
	}
}

func TestIsSymmetricWithOneDifferentPair(t *testing.T) { // P10.1
	s := sampler{1}
	for size := 1; size <= 9; size++ {
		m := s.symmetric(1<<63, size)
		if !IsSymmetric(m) {
			t.Errorf("IsSymmetric(%d): got false", m)
		}
		for i := range size {
			for j := range size {
				for _, d := range []uint64{1, 1 << 32, 1 << 63, math.MaxUint64} {
					changed := copied(m)
					changed[i][j] += d
					if got := IsSymmetric(changed); got != (i == j) {
						t.Errorf("IsSymmetric(%d): got %t", changed, got)
					}
				}
			}
		}
	}
}

func TestIsSymmetricOfSharedRows(t *testing.T) { // P10.1
	row := []uint64{4, 4, 4}
	if !IsSymmetric([][]uint64{row, row, row}) {
		t.Errorf("three times the same row of equal words: got false")
	}
	row[2] = 5
	if IsSymmetric([][]uint64{row, row, row}) {
		t.Errorf("three times the same row: got true")
	}
}

// checkNew compares the result of New with the definition.
func checkNew(t *testing.T, first, rest []uint64) {
	t.Helper()
	s, errno := New(first, rest)
	last := len(first) - 1
	if last < 0 || len(rest) != last*(last+1)/2 {
		if errno != api.ErrArg || len(s) != 0 {
			t.Errorf("New(%d, %d): got %d and error %d", first, rest, s, errno)
		}
		return
	}
	if errno != api.OK || !equalsTransposed(s) || len(s) != len(first) || !slices.Equal(s[0], first) {
		t.Errorf("New(%d, %d): got %d and error %d", first, rest, s, errno)
		return
	}
	var entries []uint64
	for i := 1; i < len(s); i++ {
		entries = append(entries, s[i][i:]...)
	}
	if !slices.Equal(entries, rest) {
		t.Errorf("New(%d, %d): got %d", first, rest, s)
	}
}

func TestNewKnown(t *testing.T) { // P10.1
	const most = math.MaxUint64
	for _, c := range []struct {
		first, rest []uint64
		want        [][]uint64
		errno       api.Errno
	}{
		{nil, nil, nil, api.ErrArg},
		{[]uint64{}, []uint64{}, nil, api.ErrArg},
		{nil, []uint64{1}, nil, api.ErrArg},
		{nil, []uint64{1, 2, 3}, nil, api.ErrArg},
		{[]uint64{7}, nil, [][]uint64{{7}}, api.OK},
		{[]uint64{7}, []uint64{}, [][]uint64{{7}}, api.OK},
		{[]uint64{7}, []uint64{1}, nil, api.ErrArg},
		{[]uint64{0}, nil, [][]uint64{{0}}, api.OK},
		{[]uint64{most}, nil, [][]uint64{{most}}, api.OK},
		{[]uint64{1, 2}, []uint64{3}, [][]uint64{{1, 2}, {2, 3}}, api.OK},
		{[]uint64{1, 2}, nil, nil, api.ErrArg},
		{[]uint64{1, 2}, []uint64{3, 4}, nil, api.ErrArg},
		{[]uint64{1, 2}, []uint64{3, 4, 5}, nil, api.ErrArg},
		{[]uint64{0, 0}, []uint64{0}, [][]uint64{{0, 0}, {0, 0}}, api.OK},
		{[]uint64{31, most}, []uint64{1 << 61}, [][]uint64{{31, most}, {most, 1 << 61}}, api.OK},
		{[]uint64{1, 2, 3}, []uint64{4, 5, 6}, [][]uint64{{1, 2, 3}, {2, 4, 5}, {3, 5, 6}}, api.OK},
		{[]uint64{1, 2, 3}, []uint64{4, 5}, nil, api.ErrArg},
		{[]uint64{1, 2, 3}, []uint64{4, 5, 6, 7}, nil, api.ErrArg},
		{[]uint64{1, 2, 3, 4}, []uint64{5, 6, 7, 8, 9, 10}, [][]uint64{{1, 2, 3, 4}, {2, 5, 6, 7}, {3, 6, 8, 9}, {4, 7, 9, 10}}, api.OK},
	} {
		s, errno := New(c.first, c.rest)
		if errno != c.errno || !sameRows(s, c.want) {
			t.Errorf("New(%d, %d): got %d and error %d", c.first, c.rest, s, errno)
		}
	}
}

func TestNew(t *testing.T) { // P10.1
	s := sampler{2}
	for size := range 9 {
		for count := range 46 {
			for range 3 {
				checkNew(t, s.elements(math.MaxUint64, size), s.elements(math.MaxUint64, count))
			}
		}
	}
	for _, size := range []int{100, 301} {
		for d := -1; d <= 1; d++ {
			checkNew(t, s.elements(math.MaxUint64, size), s.elements(math.MaxUint64, size*(size-1)/2+d))
		}
	}
}

func TestNewIsSymmetric(t *testing.T) { // P10.1
	s := sampler{3}
	for size := 1; size <= 9; size++ {
		m, errno := New(s.elements(31, size), s.elements(31, size*(size-1)/2))
		if errno != api.OK || !IsSymmetric(m) {
			t.Errorf("New: got %d and error %d", m, errno)
		}
		// Every symmetric matrix is made from its upper triangle.
		m = s.symmetric(31, size)
		var rest []uint64
		for i := 1; i < size; i++ {
			rest = append(rest, m[i][i:]...)
		}
		again, _ := New(m[0], rest)
		checkMatrix(t, "New", again, m, m)
	}
}

// checkRow compares the row and the values of s at x with the definition.
func checkRow(t *testing.T, p uint64, s [][]uint64, x uint64, ys []uint64) {
	t.Helper()
	if got, want := Row(p, s, x), rowOf(p, s, x); !slices.Equal(got, want) {
		t.Errorf("Row(%d, %d, %d): got %d, want %d", p, s, x, got, want)
	}
	for _, y := range ys {
		if got, want := Eval(p, s, x, y), valueOf(p, s, x, y); got != want {
			t.Errorf("Eval(%d, %d, %d, %d): got %d, want %d", p, s, x, y, got, want)
		}
	}
}

func TestRowAndEvalKnown(t *testing.T) { // P10.2
	for _, p := range primes {
		for _, c := range []struct {
			s     [][]uint64
			x     uint64
			row   []uint64
			y     uint64
			value uint64
		}{
			{[][]uint64{{0}}, 0, []uint64{0}, 0, 0},
			{[][]uint64{{7}}, 0, []uint64{7}, 0, 7},
			{[][]uint64{{7}}, p - 1, []uint64{7}, 3, 7},
			{[][]uint64{{p - 1}}, 5, []uint64{p - 1}, p - 1, p - 1},
			{[][]uint64{{5, 2}, {2, 3}}, 0, []uint64{5, 2}, 0, 5},
			{[][]uint64{{5, 2}, {2, 3}}, 1, []uint64{7, 5}, 2, 17},
			{[][]uint64{{5, 2}, {2, 3}}, 2, []uint64{9, 8}, 1, 17},
			{[][]uint64{{5, 2}, {2, 3}}, p - 1, []uint64{3, p - 1}, p - 1, 4},
			// These matrices are not symmetric: the polynomials are y, x, x^2 y and x y^2.
			{[][]uint64{{0, 1}, {0, 0}}, 5, []uint64{0, 1}, 3, 3},
			{[][]uint64{{0, 0}, {1, 0}}, 5, []uint64{5, 0}, 3, 5},
			{[][]uint64{{0, 0, 0}, {0, 0, 0}, {0, 1, 0}}, 3, []uint64{0, 9, 0}, 2, 18},
			{[][]uint64{{0, 0, 0}, {0, 0, 1}, {0, 0, 0}}, 3, []uint64{0, 0, 3}, 2, 12},
			{[][]uint64{{0, 0}, {0, 0}}, 1, []uint64{0, 0}, 1, 0},
			{[][]uint64{{1, 1}, {p - 1, p - 1}}, 1, []uint64{0, 0}, 4, 0},
		} {
			if got := Row(p, c.s, c.x); !slices.Equal(got, c.row) {
				t.Errorf("Row(%d, %d, %d): got %d, want %d", p, c.s, c.x, got, c.row)
			}
			if got := Eval(p, c.s, c.x, c.y); got != c.value {
				t.Errorf("Eval(%d, %d, %d, %d): got %d, want %d", p, c.s, c.x, c.y, got, c.value)
			}
		}
	}
}

func TestRowAndEval(t *testing.T) { // P10.2
	for _, p := range primes {
		s := sampler{p}
		for size := 1; size <= 7; size++ {
			for _, m := range [][][]uint64{s.matrix(p, size), s.symmetric(p, size), s.matrix(2, size)} {
				for _, x := range append(edges(p), s.word()%p) {
					checkRow(t, p, m, x, append(edges(p), s.word()%p))
				}
			}
		}
	}
}

func TestRowAndEvalWithGreatestWords(t *testing.T) { // P10.2
	for _, p := range primes {
		for size := 1; size <= 5; size++ {
			m := slices.Repeat([][]uint64{slices.Repeat([]uint64{p - 1}, size)}, size)
			for _, x := range edges(p) {
				checkRow(t, p, m, x, edges(p))
			}
		}
	}
}

func TestRowAndEvalAtAllElements(t *testing.T) { // P10.2
	s := sampler{4}
	all := upTo(0, 30)
	for size := 1; size <= 4; size++ {
		m := s.matrix(31, size)
		for _, x := range all {
			checkRow(t, 31, m, x, all)
		}
	}
	eachList([]uint64{0, 1, 30}, 4, func(words []uint64) {
		for _, x := range all {
			checkRow(t, 31, rowsFrom(words, 2), x, []uint64{0, 1, 2, 30})
		}
	})
}

func TestLargeMatrix(t *testing.T) { // P10.2
	for _, p := range []uint64{31, 2305843009213693951} {
		s := sampler{p + 1}
		m, z := s.matrix(p, 60), s.elements(p, 60)
		checkRow(t, p, m, p-2, []uint64{0, p - 3})
		checkMatrix(t, "Translate", Translate(p, m, 3, z), moved(p, m, 3, z), p)
	}
}

func TestTranslateKnown(t *testing.T) { // P10.2
	for _, p := range primes {
		for _, c := range []struct {
			s    [][]uint64
			d    uint64
			z    []uint64
			want [][]uint64
		}{
			{[][]uint64{{7}}, 0, []uint64{1}, [][]uint64{{7}}},
			{[][]uint64{{7}}, 2, []uint64{1}, [][]uint64{{9}}},
			{[][]uint64{{7}}, 2, []uint64{3}, [][]uint64{{25}}},
			{[][]uint64{{1}}, p - 1, []uint64{1}, [][]uint64{{0}}},
			{[][]uint64{{5, 2}, {2, 3}}, 0, []uint64{1, 4}, [][]uint64{{5, 2}, {2, 3}}},
			{[][]uint64{{5, 2}, {2, 3}}, 9, []uint64{0, 0}, [][]uint64{{5, 2}, {2, 3}}},
			{[][]uint64{{5, 2}, {2, 3}}, 1, []uint64{1, 0}, [][]uint64{{6, 2}, {2, 3}}},
			{[][]uint64{{5, 2}, {2, 3}}, 1, []uint64{0, 1}, [][]uint64{{5, 2}, {2, 4}}},
			{[][]uint64{{5, 2}, {2, 3}}, 2, []uint64{1, 3}, [][]uint64{{7, 8}, {8, 21}}},
			{[][]uint64{{5, 2}, {2, 3}}, p - 1, []uint64{1, p - 1}, [][]uint64{{4, 3}, {3, 2}}},
			{[][]uint64{{0, 1}, {2, 0}}, 1, []uint64{1, 2}, [][]uint64{{1, 3}, {4, 4}}},
			{[][]uint64{{p - 1, p - 1}, {0, p - 1}}, p - 1, []uint64{p - 1, p - 1}, [][]uint64{{p - 2, p - 2}, {p - 1, p - 2}}},
		} {
			checkMatrix(t, "Translate", Translate(p, c.s, c.d, c.z), c.want, p, c.s, c.d, c.z)
		}
	}
}

func TestTranslate(t *testing.T) { // P10.2
	for _, p := range primes {
		s := sampler{p + 2}
		for size := 1; size <= 7; size++ {
			for _, m := range [][][]uint64{s.matrix(p, size), s.symmetric(p, size)} {
				for _, d := range append(edges(p), s.word()%p) {
					for _, z := range [][]uint64{s.elements(p, size), make([]uint64, size), slices.Repeat([]uint64{p - 1}, size)} {
						got := Translate(p, m, d, z)
						checkMatrix(t, "Translate", got, moved(p, m, d, z), p, m, d, z)
						x, y := s.word()%p, s.word()%p
						want := plus(p, valueOf(p, m, x, y), times(p, d, times(p, valueAt(p, z, x), valueAt(p, z, y))))
						if value := Eval(p, got, x, y); value != want {
							t.Errorf("modulo %d, S + %d Z Z for S = %d and Z = %d at (%d, %d): got %d, want %d", p, d, m, z, x, y, value, want)
						}
					}
				}
			}
		}
	}
}

func TestTranslateAllSmall(t *testing.T) { // P10.2
	eachList([]uint64{0, 1, 17, 30}, 3, func(words []uint64) {
		m := [][]uint64{{words[0], words[1]}, {words[2], words[0]}}
		for _, d := range upTo(0, 30) {
			for _, z := range [][]uint64{{0, 0}, {1, 30}, {words[2], words[1]}} {
				checkMatrix(t, "Translate", Translate(31, m, d, z), moved(31, m, d, z), m, d, z)
			}
		}
	})
}

// finds reports a result of Interpolate that is not the given matrix and error.
func finds(t *testing.T, p uint64, bound int, xs []uint64, rows, want [][]uint64, wanted api.Errno) {
	t.Helper()
	if s, errno := Interpolate(p, bound, xs, rows); errno != wanted || !sameRows(s, want) {
		t.Errorf("Interpolate(%d, %d, %d, %d): got %d and error %d, want %d and error %d", p, bound, xs, rows, s, errno, want, wanted)
	}
}

// areValid reports whether Interpolate must accept the arguments, by the definition.
func areValid(bound int, xs []uint64, rows [][]uint64) bool {
	// A negative t converts to a number that is much too large.
	if len(rows) != len(xs) || uint64(bound) >= uint64(len(xs)) {
		return false
	}
	for i, x := range xs {
		if slices.Contains(xs[:i], x) || len(rows[i]) != bound+1 {
			return false
		}
	}
	return true
}

// checkInterpolate compares the result of Interpolate with the definition: rows that agree pairwise fit a symmetric matrix, and others do not.
func checkInterpolate(t *testing.T, p uint64, bound int, xs []uint64, rows [][]uint64) {
	t.Helper()
	if !areValid(bound, xs, rows) {
		finds(t, p, bound, xs, rows, nil, api.ErrArg)
		return
	}
	if !agreePairwise(p, xs, rows) {
		finds(t, p, bound, xs, rows, nil, api.ErrNotFound)
		return
	}
	s, errno := Interpolate(p, bound, xs, rows)
	if errno != api.OK || len(s) != bound+1 || !equalsTransposed(s) || !sameRows(rowsOf(p, s, xs), rows) {
		t.Errorf("Interpolate(%d, %d, %d, %d): got %d and error %d", p, bound, xs, rows, s, errno)
	}
}

func TestInterpolateKnown(t *testing.T) { // P10.3
	s := [][]uint64{{5, 2}, {2, 3}}
	for _, p := range primes {
		for _, c := range []struct {
			t     int
			xs    []uint64
			rows  [][]uint64
			want  [][]uint64
			errno api.Errno
		}{
			{0, []uint64{3}, [][]uint64{{7}}, [][]uint64{{7}}, api.OK},
			{0, []uint64{0}, [][]uint64{{p - 1}}, [][]uint64{{p - 1}}, api.OK},
			{0, []uint64{3, 4}, [][]uint64{{2}, {2}}, [][]uint64{{2}}, api.OK},
			{0, []uint64{3, 4}, [][]uint64{{1}, {2}}, nil, api.ErrNotFound},
			{0, []uint64{3, 4, 0}, [][]uint64{{2}, {2}, {1}}, nil, api.ErrNotFound},
			{0, []uint64{3, 3}, [][]uint64{{2}, {2}}, nil, api.ErrArg},
			{0, []uint64{3}, [][]uint64{{}}, nil, api.ErrArg},
			{0, []uint64{3}, [][]uint64{{7, 0}}, nil, api.ErrArg},
			{0, nil, nil, nil, api.ErrArg},
			{1, []uint64{1, 2}, [][]uint64{{7, 5}, {9, 8}}, s, api.OK},
			{1, []uint64{2, 1}, [][]uint64{{9, 8}, {7, 5}}, s, api.OK},
			{1, []uint64{2, 1, 0}, [][]uint64{{9, 8}, {7, 5}, {5, 2}}, s, api.OK},
			{1, []uint64{0, p - 1}, [][]uint64{{5, 2}, {3, p - 1}}, s, api.OK},
			{1, []uint64{1, 2, 3}, [][]uint64{{7, 5}, {9, 8}, {11, 12}}, nil, api.ErrNotFound},
			{1, []uint64{1, 2, 3}, [][]uint64{{7, 5}, {9, 8}, {12, 11}}, nil, api.ErrNotFound},
			{1, []uint64{1, 2}, [][]uint64{{7, 5}, {9, 9}}, nil, api.ErrNotFound},
			{1, []uint64{1}, [][]uint64{{7, 5}}, nil, api.ErrArg},
			{1, []uint64{1, 2}, [][]uint64{{7, 5}, {9}}, nil, api.ErrArg},
			{1, []uint64{1, 2}, [][]uint64{{7, 5, 0}, {9, 8}}, nil, api.ErrArg},
			{1, []uint64{1, 2}, [][]uint64{{7, 5}, {9, 8}, {5, 2}}, nil, api.ErrArg},
			{1, []uint64{1, 2, 0}, [][]uint64{{7, 5}, {9, 8}}, nil, api.ErrArg},
			{2, []uint64{1, 2}, [][]uint64{{7, 5}, {9, 8}}, nil, api.ErrArg},
			// The row at 0 alone does not fix the coefficient of x y, so another row at 1 fits, too.
			{1, []uint64{0, 1}, [][]uint64{{5, 2}, {7, 5}}, s, api.OK},
			{1, []uint64{0, 1}, [][]uint64{{5, 2}, {7, 6}}, [][]uint64{{5, 2}, {2, 4}}, api.OK},
			{1, []uint64{0, 1}, [][]uint64{{5, 2}, {8, 5}}, nil, api.ErrNotFound},
			{2, []uint64{1, 2, 3}, [][]uint64{{0, 0, 0}, {0, 0, 0}, {0, 0, 0}}, [][]uint64{{0, 0, 0}, {0, 0, 0}, {0, 0, 0}}, api.OK},
			{2, []uint64{1, 2, 3}, [][]uint64{{1, 1, 1}, {1, 1, 1}, {1, 1, 1}}, nil, api.ErrNotFound},
			{2, []uint64{1, 2, 3}, [][]uint64{{7, 5, 0}, {9, 8, 0}, {11, 11, 0}}, [][]uint64{{5, 2, 0}, {2, 3, 0}, {0, 0, 0}}, api.OK},
		} {
			finds(t, p, c.t, c.xs, c.rows, c.want, c.errno)
		}
	}
}

func TestInterpolate(t *testing.T) { // P10.3
	for _, p := range primes {
		s := sampler{p + 3}
		for bound := range 7 {
			zero := slices.Repeat([][]uint64{make([]uint64, bound+1)}, bound+1)
			for count := bound + 1; count <= bound+5; count++ {
				for _, m := range [][][]uint64{s.symmetric(p, bound+1), s.symmetric(2, bound+1), zero} {
					xs := s.abscissas(p, count)
					finds(t, p, bound, xs, rowsOf(p, m, xs), m, api.OK)
				}
			}
		}
	}
}

func TestInterpolateAtEdges(t *testing.T) { // P10.3
	for _, p := range primes {
		s := sampler{p + 4}
		for bound := range 4 {
			m := s.symmetric(p, bound+1)
			for count := bound + 1; count <= 5; count++ {
				eachChoice([]uint64{0, 1, 2, p / 2, p - 2, p - 1}, count, func(xs []uint64) {
					finds(t, p, bound, xs, rowsOf(p, m, xs), m, api.OK)
					slices.Reverse(xs)
					finds(t, p, bound, xs, rowsOf(p, m, xs), m, api.OK)
				})
			}
		}
	}
}

func TestInterpolateInEveryOrder(t *testing.T) { // P10.3
	for _, p := range primes {
		s := sampler{p + 5}
		for bound := range 4 {
			m := s.symmetric(p, bound+1)
			xs := append(s.parties(p, 3), 0)
			rows := rowsOf(p, m, xs)
			wrong := copied(rows)
			wrong[1][bound] = plus(p, wrong[1][bound], 1)
			eachList([]int{0, 1, 2, 3}, 4, func(order []int) {
				if len(slices.Compact(slices.Sorted(slices.Values(order)))) != 4 {
					return
				}
				var points []uint64
				var right, altered [][]uint64
				for _, i := range order {
					points, right, altered = append(points, xs[i]), append(right, rows[i]), append(altered, wrong[i])
				}
				finds(t, p, bound, points, right, m, api.OK)
				checkInterpolate(t, p, bound, points, altered)
			})
		}
	}
}

func TestInterpolateWithOneWrongWord(t *testing.T) { // P10.3
	for _, p := range primes {
		s := sampler{p + 6}
		for bound := range 5 {
			for count := bound + 1; count <= bound+3; count++ {
				m := s.symmetric(p, bound+1)
				for _, xs := range [][]uint64{s.parties(p, count), append([]uint64{0}, s.parties(p, count-1)...)} {
					rows := rowsOf(p, m, xs)
					for i := range rows {
						for j := range rows[i] {
							for _, d := range []uint64{1, p - 1} {
								altered := copied(rows)
								altered[i][j] = plus(p, altered[i][j], d)
								checkInterpolate(t, p, bound, xs, altered)
								// A wrong word shows at every other point but 0, where only the first word counts.
								if count > 2 || count == 2 && xs[0] != 0 {
									finds(t, p, bound, xs, altered, nil, api.ErrNotFound)
								}
							}
						}
					}
				}
			}
		}
	}
}

func TestInterpolateLastRowDoesNotFit(t *testing.T) { // P10.3
	for _, p := range primes {
		s := sampler{p + 7}
		for bound := range 6 {
			for more := 1; more <= 3; more++ {
				m := s.symmetric(p, bound+1)
				xs := s.abscissas(p, bound+1+more)
				rows := rowsOf(p, m, xs)
				for i := bound + 1; i < len(rows); i++ {
					for j := range bound + 1 {
						altered := copied(rows)
						altered[i][j] = plus(p, altered[i][j], 1+s.word()%(p-1))
						finds(t, p, bound, xs, altered, nil, api.ErrNotFound)
						finds(t, p, bound, xs[:i], altered[:i], m, api.OK)
					}
					altered := copied(rows)
					altered[i] = s.elements(p, bound+1)
					checkInterpolate(t, p, bound, xs, altered)
				}
			}
		}
	}
}

func TestInterpolateRowsOfOtherMatrices(t *testing.T) { // P10.3
	for _, p := range primes {
		s := sampler{p + 8}
		for bound := 1; bound <= 5; bound++ {
			for count := bound + 1; count <= bound+3; count++ {
				xs := s.abscissas(p, count)
				m := s.matrix(p, bound+1)
				m[0][bound] = plus(p, m[bound][0], 1)
				// The rows fit only a matrix that is not symmetric.
				finds(t, p, bound, xs, rowsOf(p, m, xs), nil, api.ErrNotFound)
				m = s.symmetric(p, bound+1)
				m[bound-1][bound] = plus(p, m[bound-1][bound], 1)
				finds(t, p, bound, xs, rowsOf(p, m, xs), nil, api.ErrNotFound)
				// The row of a matrix of higher degree without its last word.
				m = s.symmetric(p, bound+2)
				m[bound+1][0], m[0][bound+1] = 1, 1
				var short [][]uint64
				for _, row := range rowsOf(p, m, xs) {
					short = append(short, row[:bound+1])
				}
				checkInterpolate(t, p, bound, xs, short)
				checkInterpolate(t, p, bound, xs, s.matrix(p, bound+4)[:count])
			}
		}
	}
}

func TestInterpolateAllSmallRows(t *testing.T) { // P10.3
	for _, p := range []uint64{31, 8191, 2305843009213693951} {
		for _, xs := range [][]uint64{{1, 2, 3}, {0, p - 1, 1}, {p / 2, 0, 2}} {
			for count := 1; count <= 3; count++ {
				eachList([]uint64{0, 1, p - 1}, 2*count, func(words []uint64) {
					checkInterpolate(t, p, 1, xs[:count], rowsFrom(words, 2))
				})
			}
			eachList([]uint64{0, 1}, 9, func(words []uint64) {
				checkInterpolate(t, p, 2, xs, rowsFrom(words, 3))
			})
			eachList([]uint64{0, 1, 2, p - 1}, 3, func(words []uint64) {
				checkInterpolate(t, p, 0, xs, rowsFrom(words, 1))
			})
		}
	}
}

func TestInterpolateAllPairsOfRows(t *testing.T) { // P10.3
	// Two rows of two words fit just if they agree, which one pair in 31 does.
	found := 0
	all := upTo(0, 30)
	xs := []uint64{3, 17}
	for _, a := range all {
		for _, b := range all {
			for _, c := range all {
				for _, d := range []uint64{0, 1, 2, 15, 30} {
					rows := [][]uint64{{a, b}, {c, d}}
					checkInterpolate(t, 31, 1, xs, rows)
					if _, errno := Interpolate(31, 1, xs, rows); errno == api.OK {
						found++
					}
				}
			}
		}
	}
	if found != 5*31*31 {
		t.Errorf("%d pairs of rows fit, want %d", found, 5*31*31)
	}
}

func TestInterpolateSamples(t *testing.T) { // P10.3
	for _, p := range primes {
		s := sampler{p + 9}
		for range 2000 {
			bound := s.below(4)
			// Small points and words, so that equal and fitting ones are common; some rows are missing, too short or too long.
			xs := s.elements(9, s.below(6))
			rows := make([][]uint64, max(0, len(xs)+s.below(8)/6))
			for i := range rows {
				rows[i] = s.elements(2, bound+1)
			}
			checkInterpolate(t, p, bound, xs, rows)
			checkInterpolate(t, p, bound+1-s.below(3), xs, rows)
		}
	}
}

func TestInterpolateBounds(t *testing.T) { // P10.3
	bounds := []int{math.MinInt, math.MinInt + 1, -1 << 62, -1 << 32, -1 << 31, -5, -2, -1, 1 << 31, 1 << 32, 1<<32 + 1, 1 << 62, math.MaxInt - 1, math.MaxInt}
	for _, p := range primes {
		s := sampler{p + 10}
		for count := range 6 {
			xs := s.abscissas(p, count)
			for length := range 6 {
				rows := make([][]uint64, count)
				for i := range rows {
					rows[i] = make([]uint64, length)
				}
				for _, bound := range bounds {
					finds(t, p, bound, xs, rows, nil, api.ErrArg)
				}
				// All words are 0, so that only the numbers decide.
				for bound := range 8 {
					checkInterpolate(t, p, bound, xs, rows)
				}
			}
		}
		for _, bound := range append(bounds, 0, 1, 2) {
			finds(t, p, bound, nil, nil, nil, api.ErrArg)
			finds(t, p, bound, []uint64{}, [][]uint64{}, nil, api.ErrArg)
			finds(t, p, bound, nil, [][]uint64{{1}}, nil, api.ErrArg)
			finds(t, p, bound, []uint64{1}, nil, nil, api.ErrArg)
		}
	}
}

// spoiled calls use with valid points and rows changed in each way that makes them invalid.
func spoiled(p uint64, bound int, xs []uint64, rows [][]uint64, use func(xs []uint64, rows [][]uint64)) {
	for i := range xs {
		for j := range xs {
			if i != j {
				changed := slices.Clone(xs)
				changed[i] = xs[j]
				use(changed, rows)
				same := copied(rows)
				same[i] = same[j]
				use(changed, same)
			}
		}
		for _, row := range [][]uint64{nil, {}, rows[i][:bound], append(slices.Clone(rows[i]), 0), append(slices.Clone(rows[i]), 1, 2)} {
			changed := copied(rows)
			changed[i] = row
			use(xs, changed)
		}
	}
	use(xs[1:], rows)
	use(xs[:len(xs)-1], rows)
	use(xs, rows[1:])
	use(xs, rows[:len(rows)-1])
	use(xs, append(slices.Clone(rows), rows[0]))
	use(append(slices.Clone(xs), xs[0]), append(slices.Clone(rows), rows[0]))
	use(append(slices.Clone(xs), xs[len(xs)-1]), append(slices.Clone(rows), rows[0]))
	use(xs[:bound], rows[:bound])
	use(nil, rows)
	use(xs, nil)
}

func TestInterpolateInvalidArguments(t *testing.T) { // P10.3
	for _, p := range primes {
		s := sampler{p + 11}
		for bound := range 5 {
			for count := bound + 1; count <= bound+4; count++ {
				xs := s.abscissas(p, count)
				rows := rowsOf(p, s.symmetric(p, bound+1), xs)
				spoiled(p, bound, xs, rows, func(xs []uint64, rows [][]uint64) {
					finds(t, p, bound, xs, rows, nil, api.ErrArg)
				})
			}
		}
	}
}

func TestInterpolateArgumentErrorStandsFirst(t *testing.T) { // P10.3
	for _, p := range primes {
		s := sampler{p + 12}
		for bound := range 4 {
			for count := bound + 2; count <= bound+4; count++ {
				xs := s.parties(p, count)
				rows := rowsOf(p, s.symmetric(p, bound+1), xs)
				// No row fits the others, so that ErrNotFound would apply, too.
				for i := range rows {
					rows[i][0] = plus(p, rows[i][0], uint64(i*i*i%30))
					rows[i][bound] = plus(p, rows[i][bound], uint64(1<<i))
				}
				finds(t, p, bound, xs, rows, nil, api.ErrNotFound)
				spoiled(p, bound, xs, rows, func(xs []uint64, rows [][]uint64) {
					finds(t, p, bound, xs, rows, nil, api.ErrArg)
				})
				finds(t, p, -1, xs, rows, nil, api.ErrArg)
				finds(t, p, math.MinInt, xs, rows, nil, api.ErrArg)
				finds(t, p, math.MaxInt, xs, rows, nil, api.ErrArg)
			}
		}
	}
}

func TestInterpolateManyRows(t *testing.T) { // P10.3
	for _, p := range primes {
		s := sampler{p + 13}
		bound, count := 11, 31
		m := s.symmetric(p, bound+1)
		xs := s.abscissas(p, count)
		rows := rowsOf(p, m, xs)
		finds(t, p, bound, xs, rows, m, api.OK)
		rows[count-1][bound] = plus(p, rows[count-1][bound], 1)
		finds(t, p, bound, xs, rows, nil, api.ErrNotFound)
	}
	// As many rows as there are points, for the greatest t for which that is possible.
	s := sampler{14}
	m := s.symmetric(31, 31)
	xs := s.abscissas(31, 31)
	finds(t, 31, 30, xs, rowsOf(31, m, xs), m, api.OK)
	finds(t, 31, 30, xs[1:], rowsOf(31, m, xs[1:]), nil, api.ErrArg)
}

func TestRowsAgree(t *testing.T) { // P10.4
	for _, p := range primes {
		s := sampler{p + 15}
		for size := 1; size <= 5; size++ {
			m := s.symmetric(p, size)
			xs := append(edges(p), upTo(1, 13)...)
			for _, x := range xs {
				for _, y := range xs {
					a, b := valueAt(p, Row(p, m, x), y), valueAt(p, Row(p, m, y), x)
					if a != b || Eval(p, m, x, y) != a || Eval(p, m, y, x) != a {
						t.Errorf("modulo %d, the rows of %d at %d and %d do not agree: %d and %d", p, m, x, y, a, b)
					}
				}
			}
		}
	}
}

func TestAgreeingRowsFit(t *testing.T) { // P10.4
	for _, p := range primes {
		s := sampler{p + 16}
		for bound := range 5 {
			for range 10 {
				count := bound + 1 + s.below(3)
				xs := s.parties(p, count)
				rows := agreeing(p, bound, xs, &s)
				if !agreePairwise(p, xs, rows) {
					t.Fatalf("modulo %d, the rows %d do not agree at %d", p, rows, xs)
				}
				checkInterpolate(t, p, bound, xs, rows)
			}
		}
	}
}

// agreeing returns rows that agree pairwise, made one by one without a matrix: each takes at the points before its own the values that the rows there have at its point, and any value elsewhere.
func agreeing(p uint64, bound int, xs []uint64, s *sampler) [][]uint64 {
	var rows [][]uint64
	for i, x := range xs {
		var nodes, values []uint64
		for j := range min(i, bound+1) {
			nodes, values = append(nodes, xs[j]), append(values, valueAt(p, rows[j], x))
		}
		for _, node := range xs {
			if len(nodes) < bound+1 && !slices.Contains(nodes, node) {
				nodes, values = append(nodes, node), append(values, s.word()%p)
			}
		}
		rows = append(rows, through(p, nodes, values))
	}
	return rows
}

// through returns the polynomial with the values at the nodes, found by adding for each of them a multiple of the product that is 0 at those before it. It has as many coefficients as there are nodes.
func through(p uint64, nodes, values []uint64) []uint64 {
	f := make([]uint64, len(nodes))
	product := []uint64{1}
	for i, x := range nodes {
		k := times(p, minus(p, values[i], valueAt(p, f, x)), inverseOf(p, valueAt(p, product, x)))
		next := make([]uint64, len(product)+1)
		for j, c := range product {
			f[j] = plus(p, f[j], times(p, k, c))
			next[j] = minus(p, next[j], times(p, c, x))
			next[j+1] = plus(p, next[j+1], c)
		}
		product = next
	}
	return f
}

func TestSharesLieOnPolynomial(t *testing.T) { // P10.4
	for _, p := range primes {
		s := sampler{p + 17}
		for threshold := range 5 {
			m := s.symmetric(p, threshold+1)
			var shares []uint64
			xs := upTo(1, uint64(3*threshold+1))
			for _, x := range xs {
				shares = append(shares, Row(p, m, x)[0])
				if value := Eval(p, m, x, 0); value != Row(p, m, x)[0] {
					t.Errorf("modulo %d, S(%d, 0) for %d: got %d, but the row is %d", p, x, m, value, Row(p, m, x))
				}
			}
			f := through(p, xs, shares)
			if slices.ContainsFunc(f[threshold+1:], func(c uint64) bool { return c != 0 }) {
				t.Errorf("modulo %d, the shares %d of %d lie on %d", p, shares, m, f)
			}
			if f[0] != m[0][0] || Eval(p, m, 0, 0) != m[0][0] || !slices.Equal(f[:threshold+1], Row(p, m, 0)) {
				t.Errorf("modulo %d, the shares %d of %d lie on %d, which does not give the secret", p, shares, m, f)
			}
		}
	}
}

func TestFewRowsDetermineMatrix(t *testing.T) { // P10.4
	for _, p := range primes {
		s := sampler{p + 18}
		for threshold := range 4 {
			m := s.symmetric(p, threshold+1)
			all := upTo(1, uint64(3*threshold+1))
			for count := threshold + 1; count <= len(all); count++ {
				eachChoice(all, count, func(xs []uint64) {
					var rows [][]uint64
					for _, x := range xs {
						rows = append(rows, Row(p, m, x))
					}
					finds(t, p, threshold, xs, rows, m, api.OK)
				})
			}
		}
	}
}

// sumOf returns a plus k times b.
func sumOf(p, k uint64, a, b [][]uint64) [][]uint64 {
	sum := copied(a)
	for i := range sum {
		for j := range sum[i] {
			sum[i][j] = plus(p, sum[i][j], times(p, k, b[i][j]))
		}
	}
	return sum
}

func TestRowsOfSums(t *testing.T) { // P10.4
	for _, p := range primes {
		s := sampler{p + 19}
		for size := 1; size <= 5; size++ {
			for _, k := range append(edges(p), s.word()%p) {
				a, b := s.symmetric(p, size), s.symmetric(p, size)
				for _, x := range append(edges(p), upTo(1, 13)...) {
					want := sumOf(p, k, [][]uint64{Row(p, a, x)}, [][]uint64{Row(p, b, x)})
					got := Row(p, sumOf(p, k, a, b), x)
					checkMatrix(t, "the row of a sum", [][]uint64{got}, want, p, a, b, k, x)
				}
			}
		}
	}
}

func TestTranslationKeepsRows(t *testing.T) { // P10.5
	for _, p := range primes {
		s := sampler{p + 20}
		for threshold := range 5 {
			eachChoice(upTo(1, 7), threshold, func(xs []uint64) {
				z := vanishing(p, xs)
				m := s.symmetric(p, threshold+1)
				for _, d := range []uint64{0, 1, p - 1, s.word() % p} {
					checkTranslation(t, p, m, d, z, xs)
				}
			})
			xs := s.parties(p, threshold)
			checkTranslation(t, p, s.matrix(p, threshold+1), s.word()%p, vanishing(p, xs), xs)
		}
	}
}

// checkTranslation reports a translation that changes a row at a point where z is 0, does not change others as it should, or does not add d to the secret, or that is not undone.
func checkTranslation(t *testing.T, p uint64, m [][]uint64, d uint64, z, xs []uint64) {
	t.Helper()
	got := Translate(p, m, d, z)
	for _, x := range xs {
		checkMatrix(t, "the row after a translation", [][]uint64{Row(p, got, x)}, [][]uint64{Row(p, m, x)}, p, m, d, z, x)
	}
	if secret := Eval(p, got, 0, 0); secret != plus(p, Eval(p, m, 0, 0), d) {
		t.Errorf("modulo %d, translating %d by %d with %d makes the secret %d", p, m, d, z, secret)
	}
	for _, x := range upTo(0, 13) {
		changed := !slices.Equal(Row(p, got, x), Row(p, m, x))
		if want := d != 0 && valueAt(p, z, x) != 0; changed != want {
			t.Errorf("modulo %d, whether translating %d by %d with %d changes the row at %d: got %t", p, m, d, z, x, changed)
		}
	}
	if IsSymmetric(m) && !IsSymmetric(got) {
		t.Errorf("modulo %d, translating %d by %d with %d gives %d", p, m, d, z, got)
	}
	checkMatrix(t, "the translation back", Translate(p, got, minus(p, 0, d), z), m, p, d, z)
}

func TestFewRowsFitEverySecret(t *testing.T) { // P10.5
	for _, p := range primes {
		s := sampler{p + 21}
		secrets := append(edges(p), s.elements(p, 5)...)
		if p == 31 {
			secrets = upTo(0, 30)
		}
		for threshold := range 5 {
			m := s.symmetric(p, threshold+1)
			xs := s.parties(p, threshold)
			known := rowsOf(p, m, xs)
			z := vanishing(p, xs)
			for _, secret := range secrets {
				d := minus(p, secret, m[0][0])
				want := moved(p, m, d, z)
				// The known rows and the one at 0, which begins with the secret, fit one matrix.
				rows := append(copied(known), Row(p, want, 0))
				points := append(slices.Clone(xs), 0)
				finds(t, p, threshold, points, rows, want, api.OK)
				if want[0][0] != secret || !sameRows(rowsOf(p, want, xs), known) {
					t.Errorf("modulo %d, the secret %d is not consistent with the rows %d at %d", p, secret, known, xs)
				}
				checkMatrix(t, "Translate", Translate(p, m, d, z), want, p, m, d, z)
			}
		}
	}
}

func TestEquallyManyMatricesForEverySecret(t *testing.T) { // P10.5
	// For each row at 4, exactly one matrix of two rows modulo 31 has each secret, and these are translations of one another.
	type place struct{ a, b, secret uint64 }
	matrices := make(map[place][][]uint64)
	eachList(upTo(0, 30), 3, func(words []uint64) {
		m, errno := New(words[:2], words[2:])
		if errno != api.OK {
			t.Fatalf("New(%d, %d): error %d", words[:2], words[2:], errno)
		}
		row := Row(31, m, 4)
		at := place{row[0], row[1], Eval(31, m, 0, 0)}
		if matrices[at] != nil {
			t.Errorf("%d and %d have the same row at 4 and the same secret", m, matrices[at])
		}
		matrices[at] = m
	})
	if len(matrices) != 31*31*31 {
		t.Errorf("%d rows and secrets occur, want %d", len(matrices), 31*31*31)
	}
	z := vanishing(31, []uint64{4})
	for at, m := range matrices {
		first := matrices[place{at.a, at.b, 0}]
		checkMatrix(t, "Translate", Translate(31, first, at.secret, z), m, first, at.secret, z)
	}
}

func TestMatricesWithTheSameRows(t *testing.T) { // P10.5
	for _, p := range primes {
		s := sampler{p + 22}
		for threshold := range 5 {
			for range 10 {
				a, xs := s.symmetric(p, threshold+1), s.parties(p, threshold)
				// The row at one more point takes the values that the known rows have there, and any value at another place.
				next := s.parties(p, threshold+3)
				x := next[slices.IndexFunc(next, func(x uint64) bool { return !slices.Contains(xs, x) })]
				rows := rowsOf(p, a, xs)
				var values []uint64
				for _, row := range rows {
					values = append(values, valueAt(p, row, x))
				}
				last := through(p, append(slices.Clone(xs), 0), append(values, s.word()%p))
				b, errno := Interpolate(p, threshold, append(slices.Clone(xs), x), append(rows, last))
				if errno != api.OK {
					t.Fatalf("Interpolate modulo %d of %d and %d at %d and %d: error %d", p, rows, last, xs, x, errno)
				}
				d := minus(p, Eval(p, b, 0, 0), Eval(p, a, 0, 0))
				checkMatrix(t, "Translate", Translate(p, a, d, vanishing(p, xs)), b, p, a, d, xs)
			}
		}
	}
}

// spare returns a copy of the list with marks behind its end, and a function that reports whether list and marks are as they were.
func spare(list []uint64) ([]uint64, func() bool) {
	whole := append(slices.Clone(list), 29, 30)
	return whole[:len(list)], func() bool {
		return slices.Equal(whole[:len(list)], list) && whole[len(list)] == 29 && whole[len(list)+1] == 30
	}
}

// spareRows does the same for a matrix and each of its rows.
func spareRows(m [][]uint64) ([][]uint64, func() bool) {
	whole := make([][]uint64, len(m), len(m)+1)
	checks := []func() bool{}
	for i, row := range m {
		list, unchanged := spare(row)
		whole[i] = list
		checks = append(checks, unchanged)
	}
	firsts := slices.Clone(whole)
	return whole, func() bool {
		for i, unchanged := range checks {
			if !unchanged() || len(whole[i]) != len(firsts[i]) || len(firsts[i]) > 0 && &whole[i][0] != &firsts[i][0] {
				return false
			}
		}
		return whole[: len(m)+1 : len(m)+1][len(m)] == nil
	}
}

// overwrite sets all elements, and those in the spare capacity, to the given one.
func overwrite[E any](list []E, element E) {
	list = list[:cap(list)]
	for i := range list {
		list[i] = element
	}
}

func TestArgumentsAreNotChanged(t *testing.T) { // P10.1, P10.2, P10.3
	for _, p := range primes {
		s := sampler{p + 23}
		for size := 1; size <= 5; size++ {
			a, unchanged := spareRows(s.symmetric(p, size))
			first, same := spare(s.elements(p, size))
			rest, equal := spare(s.elements(p, size*(size-1)/2))
			xs, kept := spare(s.abscissas(p, size+2))
			rows, held := spareRows(rowsOf(p, a, xs))
			IsSymmetric(a)
			made, _ := New(first, rest)
			New(rest, first)
			row := Row(p, a, 0)
			Eval(p, a, p-1, 2)
			still, translated := Translate(p, a, 0, first), Translate(p, a, 3, first)
			found, errno := Interpolate(p, size-1, xs, rows)
			Interpolate(p, size, xs, rows)
			Interpolate(p, size-1, xs[1:], rows[:size+1])
			if errno != api.OK || !unchanged() || !same() || !equal() || !kept() || !held() {
				t.Errorf("an argument is changed: now %d, %d, %d, %d and %d; or error %d", a, first, rest, xs, rows, errno)
			}
			results := [][][]uint64{made, {row}, still, translated, found}
			before := make([][][]uint64, len(results))
			for i, result := range results {
				before[i] = copied(result)
			}
			for _, list := range slices.Concat(a, rows, [][]uint64{first, rest, xs}) {
				overwrite(list, 17)
			}
			overwrite(a, nil)
			overwrite(rows, nil)
			for i, result := range results {
				checkMatrix(t, "a result after its arguments are overwritten", result, before[i], i)
			}
		}
	}
}

func TestRowsOfResultsAreNew(t *testing.T) { // P10.1, P10.2, P10.3
	row := []uint64{4, 4, 4}
	m := [][]uint64{row, row, row}
	made, _ := New(row, row)
	found, _ := Interpolate(31, 2, []uint64{1, 2, 3}, [][]uint64{{0, 0, 0}, {0, 0, 0}, {0, 0, 0}})
	for i, result := range [][][]uint64{made, found, Translate(31, m, 0, row), Translate(31, m, 1, row)} {
		rest := copied(result[1:])
		// Writing behind the end of a row must not reach the next one.
		_ = append(result[0], 9, 9, 9)
		overwrite(result[0], 17)
		checkMatrix(t, "the other rows of a result", result[1:], rest, i)
	}
	if !slices.Equal(row, []uint64{4, 4, 4}) {
		t.Errorf("a row is changed: now %d", row)
	}
}

func TestResultsDoNotLastInCalls(t *testing.T) { // P10.1, P10.2, P10.3
	m := [][]uint64{{5, 2}, {2, 3}}
	xs := []uint64{1, 2}
	made, _ := New([]uint64{5, 2}, []uint64{3})
	found, _ := Interpolate(31, 1, xs, rowsOf(31, m, xs))
	for _, list := range slices.Concat(made, found, [][]uint64{Row(31, m, 1)}, Translate(31, m, 1, xs)) {
		overwrite(list, 17)
	}
	checkNew(t, []uint64{5, 2}, []uint64{3})
	checkRow(t, 31, m, 1, []uint64{2})
	finds(t, 31, 1, xs, rowsOf(31, m, xs), m, api.OK)
}

func TestSameResultsAtTheSameTime(t *testing.T) { // P10.2, P10.3
	s := sampler{24}
	m := s.symmetric(8191, 6)
	xs := s.abscissas(8191, 9)
	rows, z := rowsOf(8191, m, xs), s.elements(8191, 6)
	want := moved(8191, m, 5, z)
	var group sync.WaitGroup
	for range 8 {
		group.Go(func() {
			for range 20 {
				finds(t, 8191, 5, xs, rows, m, api.OK)
				checkRow(t, 8191, m, 77, []uint64{5})
				checkMatrix(t, "Translate", Translate(8191, m, 5, z), want)
			}
		})
	}
	group.Wait()
}

func TestArgumentsOutsideThePreconditions(t *testing.T) { // no promise but LANGUAGE.md's: a call does not panic
	words := []uint64{0, 1, 31, 32, math.MaxUint64}
	shapes := [][][]uint64{nil, {}, {nil}, {{}, {1}}, {{1, 2}}, {{1}, {2}}, {{1, 2, 3}, {4}}, {{math.MaxUint64}, nil, words}, {words, words, words, words, words}}
	for _, p := range []uint64{0, 1, 2, 31, 32, 1 << 32, math.MaxUint64} {
		for _, s := range shapes {
			for _, x := range words {
				Row(p, s, x)
				Eval(p, s, x, math.MaxUint64)
				for _, z := range [][]uint64{nil, {}, {1}, {math.MaxUint64, 2}, words} {
					Translate(p, s, x, z)
				}
			}
			for _, xs := range [][]uint64{nil, {1}, {0, 31}, {31, 62}, {0, math.MaxUint64, 32}, words} {
				for bound := -1; bound <= 5; bound++ {
					if m, errno := Interpolate(p, bound, xs, s); errno != api.OK && len(m) != 0 {
						t.Errorf("Interpolate(%d, %d, %d, %d): got %d beside an error", p, bound, xs, s, m)
					}
				}
			}
		}
	}
}
