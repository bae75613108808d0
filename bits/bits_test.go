package bits

import (
	"math"
	"math/big"
	"slices"
	"testing"

	"privity/api"
)

// sampler yields a fixed sequence of words, so that every run tests the same cases.
type sampler struct{ state uint64 }

func (s *sampler) word() uint64 {
	s.state += 0x9e3779b97f4a7c15
	z := s.state
	z = (z ^ z>>30) * 0xbf58476d1ce4e5b9
	z = (z ^ z>>27) * 0x94d049bb133111eb
	return z ^ z>>31
}

func (s *sampler) vector(length int) []uint64 {
	vector := make([]uint64, length)
	for i := range vector {
		vector[i] = s.word() & 1
	}
	return vector
}

// shortVectors returns all bit vectors of at most the given length, the empty one among them.
func shortVectors(length int) [][]uint64 {
	list := [][]uint64{nil}
	for first := 0; len(list[first]) < length; first++ {
		for bit := range uint64(2) {
			list = append(list, append(slices.Clone(list[first]), bit))
		}
	}
	return list
}

// longVectors returns vectors up to lengths beyond MaxWidth and beyond a word: zeros, ones, single bits and samples.
func longVectors() [][]uint64 {
	var list [][]uint64
	s := sampler{2}
	for _, length := range []int{0, 1, 7, 31, 59, 60, 61, 63, 64, 65, 130} {
		ones := slices.Repeat([]uint64{1}, length)
		list = append(list, make([]uint64, length), ones, s.vector(length), s.vector(length))
		if length > 0 {
			lowest, highest := make([]uint64, length), make([]uint64, length)
			lowest[0], highest[length-1] = 1, 1
			list = append(list, lowest, highest)
		}
	}
	return list
}

// operands returns the pairs of bit vectors on which the arithmetic is tested.
func operands() [][2][]uint64 {
	var list [][2][]uint64
	for _, vectors := range [][][]uint64{shortVectors(5), longVectors()} {
		for _, a := range vectors {
			for _, b := range vectors {
				list = append(list, [2][]uint64{a, b})
			}
		}
	}
	// Operands that differ at one index only, with the same bits above and below it.
	s := sampler{3}
	for i := range 70 {
		a := s.vector(70)
		b := slices.Clone(a)
		b[i] ^= 1
		list = append(list, [2][]uint64{a, b}, [2][]uint64{b, a})
	}
	return list
}

// valueOf returns the value of a bit vector as the chapter defines it, without the code under test.
func valueOf(vector []uint64) *big.Int {
	value := new(big.Int)
	for i, bit := range vector {
		term := new(big.Int).Lsh(new(big.Int).SetUint64(bit), uint(i))
		value.Add(value, term)
	}
	return value
}

// checkVector reports a result that isn't the bit vector of that length and value.
func checkVector(t *testing.T, what string, got []uint64, length int, value *big.Int, a, b []uint64) {
	t.Helper()
	if len(got) != length {
		t.Errorf("%s of %d and %d: got %d bits, want %d", what, a, b, len(got), length)
	}
	for _, bit := range got {
		if bit > 1 {
			t.Errorf("%s of %d and %d: %d is not a bit vector", what, a, b, got)
		}
	}
	if valueOf(got).Cmp(value) != 0 {
		t.Errorf("%s of %d and %d: got %d, want the value %s", what, a, b, got, value)
	}
}

func checkBit(t *testing.T, what string, got uint64, want bool, a, b []uint64) {
	t.Helper()
	if got > 1 || (got == 1) != want {
		t.Errorf("%s of %d and %d: got %d, want %t", what, a, b, got, want)
	}
}

func TestWidth(t *testing.T) { // P2.1
	if got := Width(0); got != 1 {
		t.Errorf("Width(0) is %d, want 1", got)
	}
	check := func(n uint64) {
		if got, want := Width(n), new(big.Int).SetUint64(n).BitLen(); got != want {
			t.Errorf("Width(%d) is %d, want %d", n, got, want)
		}
	}
	for n := uint64(1); n < 5000; n++ {
		check(n)
	}
	s := sampler{1}
	for shift := range 64 {
		check(1 << shift)
		check(math.MaxUint64 >> shift)
		check(s.word()>>shift | 1)
	}
}

// checkFromUint holds FromUint against the chapter: the w bits of n, or an empty slice and ErrRange.
func checkFromUint(t *testing.T, n uint64, w int) {
	t.Helper()
	got, errno := FromUint(n, w)
	value := new(big.Int).SetUint64(n)
	if w < 1 || w > 60 || value.BitLen() > w {
		if len(got) != 0 || errno != api.ErrRange {
			t.Errorf("FromUint(%d, %d): got %d and error %d, want ErrRange", n, w, got, errno)
		}
		return
	}
	if errno != api.OK || len(got) != w {
		t.Errorf("FromUint(%d, %d): got %d and error %d, want %d bits", n, w, got, errno, w)
		return
	}
	for i, bit := range got {
		if bit != uint64(value.Bit(i)) {
			t.Errorf("FromUint(%d, %d): bit %d is %d", n, w, i, bit)
		}
	}
}

func TestFromUint(t *testing.T) { // P2.1
	numbers := []uint64{0, 1, 2, 3, 5, 6, 255, 256, 1<<59 - 1, 1 << 59, 1<<60 - 1, 1 << 60, 1<<61 - 1, 1 << 63, math.MaxUint64}
	s := sampler{4}
	for shift := range 64 {
		numbers = append(numbers, s.word()>>shift, 1<<shift, 1<<shift-1)
	}
	for _, n := range numbers {
		for w := -2; w <= 70; w++ {
			checkFromUint(t, n, w)
		}
		for _, w := range []int{math.MinInt, math.MinInt32, -64, 127, 128, math.MaxInt32, math.MaxInt} {
			checkFromUint(t, n, w)
		}
	}
}

func TestEdgesOfFromUint(t *testing.T) { // P2.1
	for _, c := range []struct {
		n uint64
		w int
	}{{0, 0}, {0, -1}, {1, 0}, {0, 61}, {1, 61}, {2, 1}, {4, 2}, {1 << 59, 59}, {1 << 60, 60}, {math.MaxUint64, 60}, {math.MaxUint64, 64}} {
		if got, errno := FromUint(c.n, c.w); len(got) != 0 || errno != api.ErrRange {
			t.Errorf("FromUint(%d, %d): got %d and error %d, want ErrRange", c.n, c.w, got, errno)
		}
	}
	for _, c := range []struct {
		n    uint64
		w    int
		want []uint64
	}{
		{0, 1, []uint64{0}},
		{1, 1, []uint64{1}},
		{0, 3, []uint64{0, 0, 0}},
		{5, 3, []uint64{1, 0, 1}},
		{0, 60, make([]uint64, 60)},
		{1<<60 - 1, 60, slices.Repeat([]uint64{1}, 60)},
		{1 << 59, 60, append(make([]uint64, 59), 1)},
	} {
		if got, errno := FromUint(c.n, c.w); !slices.Equal(got, c.want) || errno != api.OK {
			t.Errorf("FromUint(%d, %d): got %d and error %d, want %d", c.n, c.w, got, errno, c.want)
		}
	}
}

func TestToUint(t *testing.T) { // P2.1
	for _, vector := range append(shortVectors(8), longVectors()...) {
		got, errno := ToUint(vector)
		if len(vector) > 60 {
			if got != 0 || errno != api.ErrFormat {
				t.Errorf("ToUint of %d bits: got %d and error %d, want ErrFormat", len(vector), got, errno)
			}
			continue
		}
		if want := valueOf(vector).Uint64(); got != want || errno != api.OK {
			t.Errorf("ToUint(%d): got %d and error %d, want %d", vector, got, errno, want)
		}
	}
	for _, empty := range [][]uint64{nil, {}} {
		if got, errno := ToUint(empty); got != 0 || errno != api.OK {
			t.Errorf("ToUint of an empty slice: got %d and error %d, want 0", got, errno)
		}
	}
	if got, errno := ToUint(slices.Repeat([]uint64{1}, 60)); got != 1<<60-1 || errno != api.OK {
		t.Errorf("ToUint of 60 ones: got %d and error %d", got, errno)
	}
}

func TestToUintOfOtherSlices(t *testing.T) { // P2.1
	for _, length := range []int{61, 62, 64, 65, 1000} {
		if got, errno := ToUint(make([]uint64, length)); got != 0 || errno != api.ErrFormat {
			t.Errorf("ToUint of %d zeros: got %d and error %d, want ErrFormat", length, got, errno)
		}
	}
	for _, element := range []uint64{2, 3, 4, 1 << 32, 1 << 63, math.MaxUint64} {
		for _, length := range []int{1, 2, 3, 60} {
			for i := range length {
				vector := slices.Repeat([]uint64{1}, length)
				vector[i] = element
				if got, errno := ToUint(vector); got != 0 || errno != api.ErrFormat {
					t.Errorf("ToUint(%d): got %d and error %d, want ErrFormat", vector, got, errno)
				}
			}
		}
	}
}

func TestAdd(t *testing.T) { // P2.2
	for _, pair := range operands() {
		a, b := pair[0], pair[1]
		want := new(big.Int).Add(valueOf(a), valueOf(b))
		checkVector(t, "Add", Add(a, b), max(len(a), len(b))+1, want, a, b)
	}
}

func TestSaturatingSub(t *testing.T) { // P2.2
	for _, pair := range operands() {
		a, b := pair[0], pair[1]
		want := new(big.Int).Sub(valueOf(a), valueOf(b))
		if want.Sign() < 0 {
			want.SetInt64(0)
		}
		checkVector(t, "SaturatingSub", SaturatingSub(a, b), len(a), want, a, b)
	}
}

func TestMul(t *testing.T) { // P2.2
	for _, pair := range operands() {
		a, b := pair[0], pair[1]
		want := new(big.Int).Mul(valueOf(a), valueOf(b))
		checkVector(t, "Mul", Mul(a, b), len(a)+len(b), want, a, b)
	}
}

func TestLessAndEqual(t *testing.T) { // P2.3
	for _, pair := range operands() {
		a, b := pair[0], pair[1]
		order := valueOf(a).Cmp(valueOf(b))
		checkBit(t, "Less", Less(a, b), order < 0, a, b)
		checkBit(t, "Equal", Equal(a, b), order == 0, a, b)
	}
}

// edge is a pair of operands with all that the functions answer for it, written out.
type edge struct {
	a, b, sum, difference, product []uint64
	less, equal                    uint64
}

// edges holds empty operands, operands of different lengths, and subtrahends greater than the minuend.
var edges = []edge{
	{nil, nil, []uint64{0}, nil, nil, 0, 1},
	{nil, []uint64{0}, []uint64{0, 0}, nil, []uint64{0}, 0, 1},
	{[]uint64{0, 0}, nil, []uint64{0, 0, 0}, []uint64{0, 0}, []uint64{0, 0}, 0, 1},
	{nil, []uint64{1}, []uint64{1, 0}, nil, []uint64{0}, 1, 0},
	{[]uint64{1}, nil, []uint64{1, 0}, []uint64{1}, []uint64{0}, 0, 0},
	{[]uint64{1}, []uint64{1, 0, 0}, []uint64{0, 1, 0, 0}, []uint64{0}, []uint64{1, 0, 0, 0}, 0, 1},
	{[]uint64{1, 0, 0}, []uint64{1}, []uint64{0, 1, 0, 0}, []uint64{0, 0, 0}, []uint64{1, 0, 0, 0}, 0, 1},
	{[]uint64{1, 1}, []uint64{0, 0, 1}, []uint64{1, 1, 1, 0}, []uint64{0, 0}, []uint64{0, 0, 1, 1, 0}, 1, 0},
	{[]uint64{0, 0, 1}, []uint64{1, 1}, []uint64{1, 1, 1, 0}, []uint64{1, 0, 0}, []uint64{0, 0, 1, 1, 0}, 0, 0},
	{[]uint64{0, 0, 1}, []uint64{1}, []uint64{1, 0, 1, 0}, []uint64{1, 1, 0}, []uint64{0, 0, 1, 0}, 0, 0},
	{[]uint64{0, 1}, []uint64{1, 0, 0, 0}, []uint64{1, 1, 0, 0, 0}, []uint64{1, 0}, []uint64{0, 1, 0, 0, 0, 0}, 0, 0},
	{[]uint64{1, 1, 1}, []uint64{1, 1, 1}, []uint64{0, 1, 1, 1}, []uint64{0, 0, 0}, []uint64{1, 0, 0, 0, 1, 1}, 0, 1},
}

func TestEdgesOfArithmetic(t *testing.T) { // P2.2 and P2.3
	for _, c := range edges {
		if got := Add(c.a, c.b); !slices.Equal(got, c.sum) {
			t.Errorf("Add(%d, %d) is %d, want %d", c.a, c.b, got, c.sum)
		}
		if got := SaturatingSub(c.a, c.b); !slices.Equal(got, c.difference) {
			t.Errorf("SaturatingSub(%d, %d) is %d, want %d", c.a, c.b, got, c.difference)
		}
		if got := Mul(c.a, c.b); !slices.Equal(got, c.product) {
			t.Errorf("Mul(%d, %d) is %d, want %d", c.a, c.b, got, c.product)
		}
		if got := Less(c.a, c.b); got != c.less {
			t.Errorf("Less(%d, %d) is %d, want %d", c.a, c.b, got, c.less)
		}
		if got := Equal(c.a, c.b); got != c.equal {
			t.Errorf("Equal(%d, %d) is %d, want %d", c.a, c.b, got, c.equal)
		}
	}
}

func TestCarriesOverTheWholeLength(t *testing.T) { // P2.2
	for _, length := range []int{1, 60, 64, 65, 1000} {
		ones := slices.Repeat([]uint64{1}, length)
		power := append(make([]uint64, length), 1)
		if got := Add(ones, []uint64{1}); !slices.Equal(got, power) {
			t.Errorf("%d ones plus 1: got %d", length, got)
		}
		if got := SaturatingSub(power, []uint64{1}); !slices.Equal(got, append(slices.Clone(ones), 0)) {
			t.Errorf("2 to the power of %d minus 1: got %d", length, got)
		}
		want := new(big.Int).Mul(valueOf(ones), valueOf(ones))
		checkVector(t, "Mul", Mul(ones, ones), 2*length, want, ones, ones)
	}
}

func TestConversionsAreInverse(t *testing.T) { // P2.4
	for _, vector := range append(shortVectors(10), longVectors()...) {
		if len(vector) < 1 || len(vector) > 60 {
			continue
		}
		n, errno := ToUint(vector)
		back, other := FromUint(n, len(vector))
		if errno != api.OK || other != api.OK || !slices.Equal(back, vector) {
			t.Errorf("%d comes back as %d, with errors %d and %d", vector, back, errno, other)
		}
	}
	s := sampler{5}
	for w := 1; w <= 60; w++ {
		for _, n := range []uint64{0, 1, 1<<w - 1, 1 << (w - 1), s.word() & (1<<w - 1)} {
			vector, errno := FromUint(n, w)
			back, other := ToUint(vector)
			if errno != api.OK || other != api.OK || back != n {
				t.Errorf("%d as %d bits comes back as %d, with errors %d and %d", n, w, back, errno, other)
			}
		}
	}
}

func TestSumsAndProductsCommute(t *testing.T) { // P2.4
	for _, pair := range operands() {
		a, b := pair[0], pair[1]
		if !slices.Equal(Add(a, b), Add(b, a)) {
			t.Errorf("the sums of %d and %d differ", a, b)
		}
		if !slices.Equal(Mul(a, b), Mul(b, a)) {
			t.Errorf("the products of %d and %d differ", a, b)
		}
	}
}

func TestExactlyOneOrderHolds(t *testing.T) { // P2.4
	for _, pair := range operands() {
		a, b := pair[0], pair[1]
		if Less(a, b)+Less(b, a)+Equal(a, b) != 1 {
			t.Errorf("%d and %d: a < b is %d, b < a is %d, a = b is %d", a, b, Less(a, b), Less(b, a), Equal(a, b))
		}
	}
}

func TestExamples(t *testing.T) {
	if got, errno := FromUint(6, 4); !slices.Equal(got, []uint64{0, 1, 1, 0}) || errno != api.OK {
		t.Errorf("FromUint(6, 4) is %d, with error %d", got, errno)
	}
	if got := Add([]uint64{1}, []uint64{1, 1}); !slices.Equal(got, []uint64{0, 0, 1}) {
		t.Errorf("Add of 1 and 1, 1 is %d", got)
	}
	if got := SaturatingSub([]uint64{0, 1}, []uint64{1, 1}); !slices.Equal(got, []uint64{0, 0}) {
		t.Errorf("SaturatingSub of 0, 1 and 1, 1 is %d", got)
	}
}

func TestArgumentsStayAsTheyAre(t *testing.T) { // rule 5 of the document
	const spare = 7
	s := sampler{6}
	for range 50 {
		long := append(s.vector(8), slices.Repeat([]uint64{spare}, 16)...)
		short := append(s.vector(5), slices.Repeat([]uint64{spare}, 16)...)
		keptLong, keptShort := slices.Clone(long), slices.Clone(short)
		ToUint(long[:8])
		for _, pair := range [][2][]uint64{{long[:8], short[:5]}, {short[:5], long[:8]}, {long[:8], long[:8]}, {long[:8], nil}, {nil, long[:8]}} {
			for _, operate := range []func(a, b []uint64) []uint64{Add, SaturatingSub, Mul} {
				// A result that shared memory with an argument would hand this change on to it.
				for i, result := 0, operate(pair[0], pair[1]); i < len(result); i++ {
					result[i] = spare
				}
			}
			Less(pair[0], pair[1])
			Equal(pair[0], pair[1])
		}
		if !slices.Equal(long, keptLong) || !slices.Equal(short, keptShort) {
			t.Fatalf("arguments became %d and %d, were %d and %d", long, short, keptLong, keptShort)
		}
	}
}

func TestOtherElementsEndWithoutPanic(t *testing.T) {
	// Nothing is promised of these answers but that there is one.
	odd := [][]uint64{nil, {0}, {2}, {math.MaxUint64}, {0, 1, 3}, {1 << 63, 1 << 63}, slices.Repeat([]uint64{math.MaxUint64}, 70)}
	for _, a := range odd {
		for _, b := range odd {
			Add(a, b)
			SaturatingSub(a, b)
			Mul(a, b)
			Less(a, b)
			Equal(a, b)
		}
	}
}
