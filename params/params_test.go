package params

import (
	"math"
	"math/big"
	"math/bits"
	"reflect"
	"slices"
	"sync"
	"testing"

	"privity/api"
)

const (
	smallestPrime = 31
	greatestPrime = 2305843009213693951
)

var primes = []uint64{smallestPrime, 127, 8191, 131071, 524287, 2147483647, greatestPrime}

// sampler yields a fixed sequence of words, so that every run tests the same cases.
type sampler struct{ state uint64 }

func (s *sampler) word() uint64 {
	s.state += 0x9e3779b97f4a7c15
	z := s.state
	z = (z ^ z>>30) * 0xbf58476d1ce4e5b9
	z = (z ^ z>>27) * 0x94d049bb133111eb
	return z ^ z>>31
}

// below returns a number below n.
func (s *sampler) below(n int) int { return int(s.word() % uint64(n)) }

// elements returns field elements of the prime p.
func (s *sampler) elements(p uint64, count int) []uint64 {
	list := make([]uint64, count)
	for i := range list {
		list[i] = s.word() % p
	}
	return list
}

// greatestT is the greatest valid threshold, written out for every valid number of parties.
func greatestT(n int) int {
	switch n {
	case 4, 5, 6:
		return 1
	case 7, 8, 9:
		return 2
	case 10, 11, 12:
		return 3
	case 13:
		return 4
	}
	return 0
}

// sizes returns valid parameters of every number of parties and every threshold.
func sizes(p uint64) []api.Params {
	var list []api.Params
	for n := 4; n <= 13; n++ {
		for t := 1; t <= greatestT(n); t++ {
			list = append(list, api.Params{P: p, N: n, T: t})
		}
	}
	return list
}

// eachCoalition calls use with every valid coalition, and with the parties outside of it.
func eachCoalition(s api.Params, use func(bad, others []int)) {
	for set := range 1 << s.N {
		if bits.OnesCount(uint(set)) > s.T {
			continue
		}
		var bad, others []int
		for i := range s.N {
			if set>>i&1 == 1 {
				bad = append(bad, i+1)
			} else {
				others = append(others, i+1)
			}
		}
		use(bad, others)
	}
}

// counted returns the numbers first, ..., last.
func counted(first, last int) []int {
	var list []int
	for i := first; i <= last; i++ {
		list = append(list, i)
	}
	return list
}

// farNumbers are far below or above all numbers of parties. If the upper bits of some were lost, they would seem to be valid.
func farNumbers() []int {
	list := []int{math.MinInt, math.MinInt + 1, math.MinInt + 4, math.MinInt / 2, math.MinInt32, -1000, -13, -4, -3, -2, -1, 100, 1000, math.MaxInt32, math.MaxUint32, math.MaxInt / 2, math.MaxInt - 3, math.MaxInt - 1, math.MaxInt}
	for _, i := range []int{0, 1, 2, 3, 4, 5, 7, 13} {
		list = append(list, 1<<8+i, 1<<16+i, 1<<32+i, 1<<62+i, i-1<<8, i-1<<16, i-1<<32)
	}
	return list
}

// invalidParams are parameters that break one or more conditions each.
func invalidParams() []api.Params {
	list := []api.Params{
		{}, {P: 31}, {N: 4}, {T: 1}, {P: 31, N: 4}, {P: 31, T: 1}, {N: 4, T: 1},
		{P: 31, N: 3, T: 1}, {P: 31, N: 14, T: 1}, {P: 31, N: 14, T: 4}, {P: 31, N: 16, T: 5}, {P: 31, N: 30, T: 1}, {P: 31, N: 31, T: 1},
		{P: 31, N: 4, T: 2}, {P: 31, N: 6, T: 2}, {P: 31, N: 9, T: 3}, {P: 31, N: 12, T: 4}, {P: 31, N: 13, T: 5}, {P: 31, N: 7, T: 0}, {P: 31, N: 7, T: -1},
		{P: 1, N: 4, T: 1}, {P: 3, N: 4, T: 1}, {P: 5, N: 4, T: 1}, {P: 7, N: 4, T: 1}, {P: 7, N: 7, T: 2}, {P: 13, N: 4, T: 1}, {P: 30, N: 4, T: 1}, {P: 32, N: 4, T: 1}, {P: 61, N: 4, T: 1}, {P: math.MaxUint64, N: 4, T: 1},
	}
	for _, far := range farNumbers() {
		list = append(list, api.Params{P: 31, N: far, T: 1}, api.Params{P: 31, N: 13, T: far}, api.Params{P: 31, N: far, T: far}, api.Params{P: uint64(far) &^ 1, N: 4, T: 1})
	}
	return list
}

func TestExamples(t *testing.T) { // P12.2, P12.3
	s := api.Params{P: 31, N: 4, T: 1}
	if got := VanishingPolynomial(s, []int{3}); !slices.Equal(got, []uint64{1, 10}) {
		t.Errorf("VanishingPolynomial of party 3 = %v, want 1 + 10x", got)
	}
	if got := ExtendCoalition(s, nil); !slices.Equal(got, []int{1}) {
		t.Errorf("ExtendCoalition of nobody = %v, want party 1", got)
	}
	if got := VanishingPolynomial(s, nil); !slices.Equal(got, []uint64{1, 30}) {
		t.Errorf("VanishingPolynomial of nobody = %v, want 1 + 30x", got)
	}
	if got := VanishingPolynomial(s, []int{2}); !slices.Equal(got, []uint64{1, 15}) {
		t.Errorf("VanishingPolynomial of party 2 = %v, want 1 + 15x", got)
	}
}

func TestValidSizes(t *testing.T) { // P12.1
	for _, p := range primes {
		for n := -20; n <= 40; n++ {
			for threshold := -20; threshold <= 40; threshold++ {
				s := api.Params{P: p, N: n, T: threshold}
				want := 1 <= threshold && threshold <= greatestT(n)
				if got := Valid(s); got != want {
					t.Errorf("Valid(%v) = %v", s, got)
				}
				if want && uint64(n) >= p {
					t.Errorf("%v: N is not less than P", s)
				}
			}
		}
	}
}

func TestValidPrimes(t *testing.T) { // P12.1
	check := func(p uint64) {
		t.Helper()
		for _, s := range []api.Params{{P: p, N: 4, T: 1}, {P: p, N: 13, T: 4}} {
			if got, want := Valid(s), slices.Contains(primes, p); got != want {
				t.Errorf("Valid(%v) = %v", s, got)
			}
		}
	}
	for p := range uint64(150000) {
		check(p)
	}
	for q := range 65 {
		for d := range uint64(8) {
			check(uint64(1)<<q - 4 + d)
		}
	}
	for _, p := range primes {
		for d := range uint64(100) {
			check(p - d)
			check(p + d)
		}
		check(2 * p)
		check(p * p)
		check(p + 1<<32)
		check(^p)
	}
}

func TestFarSizes(t *testing.T) { // P12.1
	for _, p := range primes {
		for _, far := range farNumbers() {
			for i := -1; i <= 14; i++ {
				for _, s := range []api.Params{{P: p, N: far, T: i}, {P: p, N: i, T: far}, {P: p, N: far, T: far}} {
					if Valid(s) {
						t.Errorf("%v is invalid", s)
					}
				}
			}
		}
	}
}

// wrappingThresholds are thresholds whose product by 3 doesn't fit an int: the lowest bits of the product are a small number.
func wrappingThresholds() []int {
	const thirdOfOne = 0xaaaaaaaaaaaaaaab
	var list []int
	for c := -40; c <= 40; c++ {
		product := uint64(c)
		list = append(list, int(product*thirdOfOne))
	}
	for d := -3; d <= 3; d++ {
		list = append(list, math.MaxInt/3+d, math.MaxInt/3*2+d, math.MinInt/3+d, math.MinInt/3*2+d, math.MaxInt-3+d, math.MinInt+3+d)
	}
	return list
}

func TestThresholdWhoseTripleDoesNotFit(t *testing.T) { // P12.1
	for _, threshold := range wrappingThresholds() {
		for n := -1; n <= 20; n++ {
			s := api.Params{P: smallestPrime, N: n, T: threshold}
			if got, want := Valid(s), 1 <= threshold && threshold <= greatestT(n); got != want {
				t.Errorf("Valid(%v) = %v", s, got)
			}
		}
	}
}

func TestInvalidParams(t *testing.T) { // P12.1
	lists := [][]int{nil, {}, {1}, {2}, {4}, {0}, {-1}, {5}, {1, 2}, {2, 1}, {1, 1}, counted(1, 3), counted(1, 4), counted(1, 13), {math.MaxInt}, {math.MinInt}}
	for _, s := range invalidParams() {
		if Valid(s) {
			t.Errorf("%v is invalid", s)
		}
		for _, l := range lists {
			if ValidCoalition(s, l) {
				t.Errorf("%v is no coalition for the invalid parameters %v", l, s)
			}
		}
	}
}

// isCoalition tells whether every party of the list is greater than those before it, and whether there are not too many.
func isCoalition(s api.Params, l []int) bool {
	for i, party := range l {
		if party < 1 || party > s.N || slices.Max(append([]int{0}, l[:i]...)) >= party {
			return false
		}
	}
	return len(l) <= s.T
}

// eachList calls use with every list of the given length of elements.
func eachList(elements []int, length int, use func(list []int)) {
	if length == 0 {
		use(nil)
		return
	}
	eachList(elements, length-1, func(list []int) {
		for _, e := range elements {
			use(append(slices.Clone(list), e))
		}
	})
}

func checkCoalition(t *testing.T, s api.Params, l []int) {
	t.Helper()
	if got, want := ValidCoalition(s, l), isCoalition(s, l); got != want {
		t.Errorf("ValidCoalition(%v, %v) = %v", s, l, got)
	}
}

func TestShortLists(t *testing.T) { // P12.1
	for _, p := range []uint64{smallestPrime, greatestPrime} {
		for _, s := range sizes(p) {
			for length := range 4 {
				eachList(counted(-1, s.N+2), length, func(l []int) { checkCoalition(t, s, l) })
			}
		}
	}
}

func TestListsOfFourAndFive(t *testing.T) { // P12.1
	s := api.Params{P: smallestPrime, N: 13, T: 4}
	for _, elements := range [][]int{counted(0, 5), counted(9, 14), {0, 1, 2, 7, 12, 13, 14}} {
		for _, length := range []int{4, 5} {
			eachList(elements, length, func(l []int) { checkCoalition(t, s, l) })
		}
	}
}

func TestEveryCoalitionIsValid(t *testing.T) { // P12.1
	for _, p := range primes {
		for _, s := range sizes(p) {
			count := 0
			eachCoalition(s, func(bad, _ []int) {
				count++
				if !ValidCoalition(s, bad) {
					t.Errorf("ValidCoalition(%v, %v) = false", s, bad)
				}
			})
			if want := countOfCoalitions(s); count != want {
				t.Errorf("%v: %d coalitions were tried, want %d", s, count, want)
			}
		}
	}
}

// countOfCoalitions returns the sum of the numbers of ways to choose at most T parties.
func countOfCoalitions(s api.Params) int {
	sum, ways := 0, 1
	for size := range s.T + 1 {
		sum += ways
		ways = ways * (s.N - size) / (size + 1)
	}
	return sum
}

func TestKnownCoalitions(t *testing.T) { // P12.1
	s := api.Params{P: 31, N: 10, T: 3}
	for _, c := range []struct {
		l    []int
		want bool
	}{
		{nil, true}, {[]int{}, true}, {make([]int, 0, 5), true}, {[]int{1}, true}, {[]int{10}, true}, {[]int{1, 10}, true},
		{[]int{1, 2, 3}, true}, {[]int{8, 9, 10}, true}, {[]int{2, 5, 9}, true}, {counted(1, 20)[4:7], true},
		{[]int{0}, false}, {[]int{11}, false}, {[]int{-1}, false}, {[]int{0, 1}, false}, {[]int{10, 11}, false}, {[]int{-1, 1, 2}, false},
		{[]int{0, 0, 0}, false}, {[]int{1, 1}, false}, {[]int{10, 10}, false}, {[]int{1, 1, 2}, false}, {[]int{1, 2, 2}, false}, {[]int{1, 2, 1}, false},
		{[]int{2, 1}, false}, {[]int{3, 2, 1}, false}, {[]int{1, 3, 2}, false}, {[]int{2, 1, 3}, false}, {[]int{10, 1}, false},
		{[]int{1, 2, 3, 4}, false}, {[]int{7, 8, 9, 10}, false}, {[]int{1, 2, 3, 3}, false}, {counted(1, 10), false}, {counted(1, 11), false},
		{[]int{1, 2, math.MaxInt}, false}, {[]int{math.MaxInt}, false}, {[]int{math.MinInt}, false}, {[]int{math.MinInt, 1, 2}, false}, {[]int{1, math.MinInt, 2}, false},
		{[]int{1<<32 + 1}, false}, {[]int{1, 1<<32 + 2}, false}, {[]int{1<<8 + 1}, false}, {[]int{1 - 1<<32}, false},
	} {
		if got := ValidCoalition(s, c.l); got != c.want {
			t.Errorf("ValidCoalition(%v) = %v", c.l, got)
		}
	}
}

func TestTooManyCorruptParties(t *testing.T) { // P12.1
	for _, s := range sizes(smallestPrime) {
		for first := 1; first+s.T <= s.N; first++ {
			if l := counted(first, first+s.T-1); !ValidCoalition(s, l) {
				t.Errorf("ValidCoalition(%v, %v) = false", s, l)
			}
			if l := counted(first, first+s.T); ValidCoalition(s, l) {
				t.Errorf("ValidCoalition(%v, %v) = true", s, l)
			}
		}
		for length := s.T + 1; length <= s.N+1; length++ {
			if l := counted(1, length); ValidCoalition(s, l) {
				t.Errorf("ValidCoalition(%v, %v) = true", s, l)
			}
		}
	}
}

func TestFarPartyNumbers(t *testing.T) { // P12.1
	for _, s := range sizes(smallestPrime) {
		for _, far := range farNumbers() {
			eachCoalition(s, func(bad, _ []int) {
				for i := range bad {
					changed := slices.Clone(bad)
					changed[i] = far
					if ValidCoalition(s, changed) {
						t.Errorf("ValidCoalition(%v, %v) = true", s, changed)
					}
				}
			})
		}
	}
}

func TestLongLists(t *testing.T) { // P12.1
	for _, length := range []int{14, 1 << 8, 1<<8 + 1, 1 << 16, 1<<16 + 2, 1000000} {
		up := counted(1, length)
		down := slices.Clone(up)
		slices.Reverse(down)
		ending := make([]int, length)
		ending[length-1] = 1
		lists := [][]int{up, down, slices.Repeat([]int{1}, length), slices.Repeat([]int{3, 4}, length/2), make([]int, length), ending, counted(13-length, 13)}
		for _, s := range sizes(smallestPrime) {
			for i, l := range lists {
				if ValidCoalition(s, l) {
					t.Errorf("ValidCoalition(%v) of list %d of %d parties = true", s, i, length)
				}
			}
		}
	}
}

// withSpare returns a copy of the list with spare capacity, and a function that tells whether all of its memory is as it was.
func withSpare(list []int) ([]int, func() bool) {
	whole := append(slices.Clone(list), 4, 9, 2, -7, 0, 13, 1, 6)
	kept := slices.Clone(whole)
	return whole[:len(list)], func() bool { return slices.Equal(whole, kept) }
}

func TestCoalitionsAreNotChanged(t *testing.T) { // P12.1, P12.2, P12.3
	for _, s := range sizes(smallestPrime) {
		eachCoalition(s, func(bad, _ []int) {
			l, isUnchanged := withSpare(bad)
			ValidCoalition(s, l)
			ExtendCoalition(s, l)
			HonestParties(s, l)
			VanishingPolynomial(s, l)
			ValidScenario(api.Scenario{S: s, Corrupt: l, Tapes: make([][]uint64, s.N)})
			if !isUnchanged() {
				t.Fatalf("%v: the coalition %v is changed", s, bad)
			}
		})
	}
	for _, invalid := range [][]int{{3, 2, 1}, {0}, {2, 2}, {14, -1}, counted(1, 9)} {
		l, isUnchanged := withSpare(invalid)
		ValidCoalition(api.Params{P: 31, N: 13, T: 4}, l)
		ValidScenario(api.Scenario{S: api.Params{P: 31, N: 13, T: 4}, Corrupt: l, Tapes: make([][]uint64, 13)})
		if !isUnchanged() {
			t.Fatalf("the list %v is changed", invalid)
		}
	}
}

func TestKnownExtensions(t *testing.T) { // P12.2
	for _, c := range []struct {
		n, t                  int
		bad, extended, honest []int
	}{
		{4, 1, nil, []int{1}, counted(1, 4)},
		{4, 1, []int{1}, []int{1}, []int{2, 3, 4}},
		{4, 1, []int{4}, []int{4}, []int{1, 2, 3}},
		{7, 1, []int{}, []int{1}, counted(1, 7)},
		{7, 2, nil, []int{1, 2}, counted(1, 7)},
		{7, 2, []int{1}, []int{1, 2}, counted(2, 7)},
		{7, 2, []int{2}, []int{1, 2}, []int{1, 3, 4, 5, 6, 7}},
		{7, 2, []int{7}, []int{1, 7}, counted(1, 6)},
		{7, 2, []int{1, 2}, []int{1, 2}, counted(3, 7)},
		{7, 2, []int{6, 7}, []int{6, 7}, counted(1, 5)},
		{10, 3, []int{2}, []int{1, 2, 3}, []int{1, 3, 4, 5, 6, 7, 8, 9, 10}},
		{10, 3, []int{1, 3}, []int{1, 2, 3}, []int{2, 4, 5, 6, 7, 8, 9, 10}},
		{13, 4, nil, []int{1, 2, 3, 4}, counted(1, 13)},
		{13, 4, []int{13}, []int{1, 2, 3, 13}, counted(1, 12)},
		{13, 4, []int{1, 3}, []int{1, 2, 3, 4}, []int{2, 4, 5, 6, 7, 8, 9, 10, 11, 12, 13}},
		{13, 4, []int{2, 4}, []int{1, 2, 3, 4}, []int{1, 3, 5, 6, 7, 8, 9, 10, 11, 12, 13}},
		{13, 4, []int{2, 9}, []int{1, 2, 3, 9}, []int{1, 3, 4, 5, 6, 7, 8, 10, 11, 12, 13}},
		{13, 4, []int{1, 2, 3}, []int{1, 2, 3, 4}, counted(4, 13)},
		{13, 4, []int{1, 2, 3, 4}, []int{1, 2, 3, 4}, counted(5, 13)},
		{13, 4, []int{10, 11, 12, 13}, []int{10, 11, 12, 13}, counted(1, 9)},
		{13, 3, []int{12}, []int{1, 2, 12}, []int{1, 2, 3, 4, 5, 6, 7, 8, 9, 10, 11, 13}},
	} {
		for _, p := range primes {
			s := api.Params{P: p, N: c.n, T: c.t}
			if got := ExtendCoalition(s, c.bad); !slices.Equal(got, c.extended) {
				t.Errorf("ExtendCoalition(%v, %v) = %v, want %v", s, c.bad, got, c.extended)
			}
			if got := HonestParties(s, c.bad); !slices.Equal(got, c.honest) {
				t.Errorf("HonestParties(%v, %v) = %v, want %v", s, c.bad, got, c.honest)
			}
		}
	}
}

// extended returns the coalition with the smallest other parties.
func extended(s api.Params, bad, others []int) []int {
	all := append(slices.Clone(bad), others[:s.T-len(bad)]...)
	slices.Sort(all)
	return all
}

func TestEveryExtension(t *testing.T) { // P12.2
	for _, p := range primes {
		for _, s := range sizes(p) {
			eachCoalition(s, func(bad, others []int) {
				if got, want := ExtendCoalition(s, bad), extended(s, bad, others); !slices.Equal(got, want) {
					t.Errorf("ExtendCoalition(%v, %v) = %v, want %v", s, bad, got, want)
				}
				if got := HonestParties(s, bad); !slices.Equal(got, others) {
					t.Errorf("HonestParties(%v, %v) = %v, want %v", s, bad, got, others)
				}
			})
		}
	}
}

func TestExtensionStatedInWords(t *testing.T) { // P12.2
	for _, s := range sizes(smallestPrime) {
		eachCoalition(s, func(bad, _ []int) {
			got := ExtendCoalition(s, bad)
			if len(got) != s.T || !ValidCoalition(s, got) {
				t.Errorf("ExtendCoalition(%v, %v) = %v: want T increasing parties", s, bad, got)
			}
			for party := 1; party <= s.N; party++ {
				if slices.Contains(bad, party) && !slices.Contains(got, party) {
					t.Errorf("ExtendCoalition(%v, %v) = %v lacks party %d", s, bad, got, party)
				}
				if !slices.Contains(got, party) && len(got) > 0 && addedAbove(got, bad, party) {
					t.Errorf("ExtendCoalition(%v, %v) = %v passes over party %d", s, bad, got, party)
				}
			}
		})
	}
}

// addedAbove tells whether a party with a greater number than the given one is in all, but not in bad.
func addedAbove(all, bad []int, party int) bool {
	return slices.ContainsFunc(all, func(other int) bool { return other > party && !slices.Contains(bad, other) })
}

// modulo returns the given big number modulo p.
func modulo(p uint64, n *big.Int) uint64 {
	return new(big.Int).Mod(n, new(big.Int).SetUint64(p)).Uint64()
}

func times(p, a, b uint64) uint64 {
	return modulo(p, new(big.Int).Mul(new(big.Int).SetUint64(a), new(big.Int).SetUint64(b)))
}

func minus(p, a, b uint64) uint64 {
	return modulo(p, new(big.Int).Sub(new(big.Int).SetUint64(a), new(big.Int).SetUint64(b)))
}

func quotient(p, a, b uint64) uint64 {
	inverse := new(big.Int).ModInverse(new(big.Int).SetUint64(b), new(big.Int).SetUint64(p))
	return times(p, a, inverse.Uint64())
}

// valueAt returns the value of the polynomial, as the sum of the coefficients times powers of x.
func valueAt(p uint64, f []uint64, x uint64) uint64 {
	sum, power := new(big.Int), uint64(1)
	for _, coefficient := range f {
		sum.Add(sum, new(big.Int).SetUint64(times(p, coefficient, power)))
		power = times(p, power, x)
	}
	return modulo(p, sum)
}

// productOfFactors returns the product of all 1 - x / c, where c are the parties.
func productOfFactors(p uint64, parties []int) []uint64 {
	product := []uint64{1}
	for _, c := range parties {
		next := append(slices.Clone(product), 0)
		for i, coefficient := range product {
			next[i+1] = minus(p, next[i+1], quotient(p, coefficient, uint64(c)))
		}
		product = next
	}
	return product
}

// productAt returns the value at x of the product of all (c - x) / c, where c are the parties.
func productAt(p uint64, parties []int, x uint64) uint64 {
	product := uint64(1)
	for _, c := range parties {
		product = times(p, product, quotient(p, minus(p, uint64(c), x), uint64(c)))
	}
	return product
}

func TestKnownVanishingPolynomials(t *testing.T) { // P12.3
	for _, c := range []struct {
		s    api.Params
		bad  []int
		want []uint64
	}{
		{api.Params{P: 31, N: 4, T: 1}, []int{1}, []uint64{1, 30}},
		{api.Params{P: 31, N: 4, T: 1}, []int{4}, []uint64{1, 23}},        // 4 times 23 is -1
		{api.Params{P: 31, N: 7, T: 2}, nil, []uint64{1, 14, 16}},         // (1 - x)(1 - x/2)
		{api.Params{P: 31, N: 7, T: 2}, []int{1, 2}, []uint64{1, 14, 16}}, // the same extended coalition
		{api.Params{P: 31, N: 7, T: 2}, []int{7}, []uint64{1, 21, 9}},     // (1 + 30x)(1 + 22x), as 7 times 22 is -1
		{api.Params{P: 127, N: 4, T: 1}, []int{2}, []uint64{1, 63}},       // 2 times 63 is -1
		{api.Params{P: greatestPrime, N: 13, T: 1}, nil, []uint64{1, greatestPrime - 1}},
		{api.Params{P: greatestPrime, N: 13, T: 1}, []int{2}, []uint64{1, greatestPrime / 2}},
		{api.Params{P: greatestPrime, N: 7, T: 2}, []int{1, 2}, []uint64{1, greatestPrime/2 - 1, greatestPrime/2 + 1}},
	} {
		if got := VanishingPolynomial(c.s, c.bad); !slices.Equal(got, c.want) {
			t.Errorf("VanishingPolynomial(%v, %v) = %v, want %v", c.s, c.bad, got, c.want)
		}
	}
}

// checkVanishing checks the form of the polynomial and its values at 0, at the parties and elsewhere.
func checkVanishing(t *testing.T, s api.Params, bad, all []int) {
	t.Helper()
	z := VanishingPolynomial(s, bad)
	if len(z) != s.T+1 || z[s.T] == 0 || z[0] != 1 {
		t.Fatalf("VanishingPolynomial(%v, %v) = %v: want T + 1 coefficients, the first 1, the last not 0", s, bad, z)
	}
	if slices.Max(z) >= s.P {
		t.Errorf("VanishingPolynomial(%v, %v) = %v: want field elements", s, bad, z)
	}
	if want := productOfFactors(s.P, all); !slices.Equal(z, want) {
		t.Errorf("VanishingPolynomial(%v, %v) = %v, want %v", s, bad, z, want)
	}
	for _, x := range []uint64{0, 1, 2, 3, 4, 5, 6, 7, 8, 9, 10, 11, 12, 13, 14, 30, s.P / 2, s.P - 1} {
		got := valueAt(s.P, z, x)
		if want := productAt(s.P, all, x); got != want {
			t.Errorf("VanishingPolynomial(%v, %v) is %d at %d, want %d", s, bad, got, x, want)
		}
		isZero := slices.ContainsFunc(all, func(party int) bool { return uint64(party) == x })
		if (got == 0) != isZero {
			t.Errorf("VanishingPolynomial(%v, %v) is %d at %d", s, bad, got, x)
		}
	}
}

func TestVanishingPolynomialOverOutermostPrimes(t *testing.T) { // P12.3
	for _, p := range []uint64{smallestPrime, greatestPrime} {
		for _, s := range sizes(p) {
			eachCoalition(s, func(bad, others []int) { checkVanishing(t, s, bad, extended(s, bad, others)) })
		}
	}
}

func TestVanishingPolynomialOverEveryPrime(t *testing.T) { // P12.3
	for _, p := range primes {
		for _, s := range sizes(p) {
			for _, bad := range [][]int{nil, counted(1, s.T), counted(s.N-s.T+1, s.N), {s.N}, {s.T + 1}, {1}} {
				var others []int
				for party := 1; party <= s.N; party++ {
					if !slices.Contains(bad, party) {
						others = append(others, party)
					}
				}
				checkVanishing(t, s, bad, extended(s, bad, others))
			}
		}
	}
}

func TestConsequences(t *testing.T) { // P12.4
	for _, p := range []uint64{smallestPrime, greatestPrime} {
		for _, s := range sizes(p) {
			eachCoalition(s, func(bad, _ []int) { checkConsequences(t, s, bad) })
		}
	}
}

func checkConsequences(t *testing.T, s api.Params, bad []int) {
	t.Helper()
	all, honest := ExtendCoalition(s, bad), HonestParties(s, bad)
	if got := ExtendCoalition(s, all); !slices.Equal(got, all) {
		t.Errorf("ExtendCoalition(%v, %v) = %v: an extended coalition is changed", s, all, got)
	}
	if got := slices.Sorted(slices.Values(slices.Concat(bad, honest))); !slices.Equal(got, counted(1, s.N)) {
		t.Errorf("%v: %v and %v are not all parties, each once", s, bad, honest)
	}
	// Even beside an extended coalition, more than two thirds of the parties are left.
	left := HonestParties(s, all)
	if 3*len(honest) <= 2*s.N || 3*len(left) <= 2*s.N || len(left) != s.N-s.T {
		t.Errorf("%v: %v, and %v beside %v, are too few honest parties", s, honest, left, all)
	}
	z := VanishingPolynomial(s, bad)
	if got := VanishingPolynomial(s, all); !slices.Equal(got, z) {
		t.Errorf("VanishingPolynomial(%v, %v) = %v, and %v of the extended coalition", s, bad, z, got)
	}
	for _, party := range left {
		if valueAt(s.P, z, uint64(party)) == 0 {
			t.Errorf("VanishingPolynomial(%v, %v) is 0 at party %d", s, bad, party)
		}
	}
}

func TestResultsAreNewMemory(t *testing.T) { // P12.2, P12.3
	for _, s := range sizes(smallestPrime) {
		eachCoalition(s, func(bad, _ []int) {
			l, isUnchanged := withSpare(bad)
			all, honest, z := ExtendCoalition(s, l), HonestParties(s, l), VanishingPolynomial(s, l)
			wantAll, wantHonest, wantZ := slices.Clone(all), slices.Clone(honest), slices.Clone(z)
			overwriteParties(ExtendCoalition(s, l))
			overwriteParties(HonestParties(s, l))
			again := VanishingPolynomial(s, l)
			for i := range again {
				again[i] = 99
			}
			if !isUnchanged() {
				t.Fatalf("%v: a result shares memory with the coalition %v", s, bad)
			}
			overwriteParties(l)
			if !slices.Equal(all, wantAll) || !slices.Equal(honest, wantHonest) || !slices.Equal(z, wantZ) {
				t.Fatalf("%v, %v: results share memory", s, bad)
			}
		})
	}
}

// overwriteParties changes all entries of a list and those of its spare capacity.
func overwriteParties(l []int) {
	l = l[:cap(l)]
	for i := range l {
		l[i] = -99
	}
}

// scenario returns a valid scenario with one deviation of each kind.
func scenario(p uint64) api.Scenario {
	return api.Scenario{
		S:       api.Params{P: p, N: 7, T: 2},
		Corrupt: []int{3, 6},
		Deviations: []api.Deviation{
			{Round: 0, From: 3, To: 0, At: 0, Kind: api.DeviateSet, K: p - 1},
			{Round: 2, From: 6, To: 1, At: 3, Kind: api.DeviateAdd, K: math.MaxUint64, Of: 2, SrcIndex: 9},
			{Round: 2, From: 6, To: 6, At: 1, Kind: api.DeviateEcho, K: p, Of: 7, SrcIndex: 2},
			{Round: 900, From: 1, To: 7, At: 8, Kind: api.DeviateDrop},
		},
		Tapes: [][]uint64{{0, 1, p - 1}, nil, {}, {5}, {p - 1}, {7, 7, 7, 7}, {p - 1, 0, p - 1}},
	}
}

// wantScenario checks the validity of a scenario, and that it is not changed.
func wantScenario(t *testing.T, w api.Scenario, want bool, what string, args ...any) {
	t.Helper()
	kept := cloned(w)
	if got := ValidScenario(w); got != want {
		t.Errorf("%s %v: ValidScenario = %v", what, args, got)
	}
	if !reflect.DeepEqual(w, kept) {
		t.Errorf("%s %v: the scenario is changed", what, args)
	}
}

// cloned returns a scenario that shares no memory with w.
func cloned(w api.Scenario) api.Scenario {
	w.Corrupt, w.Deviations, w.Tapes = slices.Clone(w.Corrupt), slices.Clone(w.Deviations), slices.Clone(w.Tapes)
	for i, words := range w.Tapes {
		w.Tapes[i] = slices.Clone(words)
	}
	return w
}

func TestValidScenarios(t *testing.T) { // P12.1
	for _, p := range primes {
		wantScenario(t, scenario(p), true, "scenario", p)
		for _, s := range sizes(p) {
			eachCoalition(s, func(bad, _ []int) {
				wantScenario(t, api.Scenario{S: s, Corrupt: bad, Tapes: make([][]uint64, s.N)}, true, "coalition", s, bad)
			})
		}
	}
	empty := api.Scenario{S: api.Params{P: 31, N: 4, T: 1}, Corrupt: []int{}, Deviations: []api.Deviation{}, Tapes: [][]uint64{{}, {}, {}, {}}}
	wantScenario(t, empty, true, "empty lists")
	wantScenario(t, api.Scenario{}, false, "zero value")
}

// withDeviation returns a scenario with the deviation at the given place of the list.
func withDeviation(w api.Scenario, at int, d api.Deviation) api.Scenario {
	w = cloned(w)
	w.Deviations = slices.Insert(w.Deviations, at, d)
	return w
}

// wantDeviation checks the validity of a deviation at the start, in the middle and at the end of a list, and alone.
func wantDeviation(t *testing.T, s api.Params, d api.Deviation, want bool) {
	t.Helper()
	w := scenario(s.P)
	w.S, w.Tapes, w.Corrupt = s, make([][]uint64, s.N), nil
	// The deviations that stand beside it are valid for any number of parties.
	w.Deviations = []api.Deviation{{From: 1, Kind: api.DeviateDrop}, {From: 4, To: 1, Kind: api.DeviateEcho, Of: 4}}
	for at := range 3 {
		wantScenario(t, withDeviation(w, at, d), want, "deviation", s, d, at)
	}
	w.Deviations = nil
	wantScenario(t, withDeviation(w, 0, d), want, "deviation alone", s, d)
	w.Corrupt = []int{2}
	wantScenario(t, withDeviation(w, 0, d), want, "deviation with a coalition", s, d)
}

// changes are the fields of a deviation for which the document sets bounds, with the bounds for a kind.
func changes(s api.Params, kind int) []struct {
	set            func(d *api.Deviation, n int)
	least, highest int
} {
	leastOf := 0
	if kind == api.DeviateEcho {
		leastOf = 1
	}
	return []struct {
		set            func(d *api.Deviation, n int)
		least, highest int
	}{
		{func(d *api.Deviation, n int) { d.Round = n }, 0, math.MaxInt},
		{func(d *api.Deviation, n int) { d.At = n }, 0, math.MaxInt},
		{func(d *api.Deviation, n int) { d.SrcIndex = n }, 0, math.MaxInt},
		{func(d *api.Deviation, n int) { d.From = n }, 1, s.N},
		{func(d *api.Deviation, n int) { d.To = n }, 0, s.N},
		{func(d *api.Deviation, n int) { d.Of = n }, leastOf, s.N},
	}
}

func TestBoundsOfDeviations(t *testing.T) { // P12.1
	for _, s := range []api.Params{{P: smallestPrime, N: 4, T: 1}, {P: 8191, N: 7, T: 2}, {P: greatestPrime, N: 13, T: 4}} {
		for kind := api.DeviateSet; kind <= api.DeviateDrop; kind++ {
			good := api.Deviation{Round: 1, From: 2, To: 3, At: 4, Kind: kind, K: 5, Of: 1, SrcIndex: 6}
			wantDeviation(t, s, good, true)
			for _, c := range changes(s, kind) {
				for _, n := range append(counted(-2, s.N+2), farNumbers()...) {
					d := good
					c.set(&d, n)
					wantDeviation(t, s, d, c.least <= n && n <= c.highest)
				}
			}
		}
	}
}

func TestKindsOfDeviations(t *testing.T) { // P12.1
	s := api.Params{P: smallestPrime, N: 7, T: 2}
	for _, kind := range append(counted(-5, 20), farNumbers()...) {
		for of := range 8 {
			want := kind == api.DeviateSet || kind == api.DeviateAdd || kind == api.DeviateDrop || kind == api.DeviateEcho && of > 0
			wantDeviation(t, s, api.Deviation{Round: 1, From: 2, To: 3, Kind: kind, Of: of}, want)
		}
	}
}

func TestConstantOfDeviationIsArbitrary(t *testing.T) { // P12.1
	for _, p := range primes {
		for _, k := range []uint64{0, 1, p - 1, p, p + 1, 1 << 32, 1 << 63, math.MaxUint64 - 1, math.MaxUint64} {
			for kind := api.DeviateSet; kind <= api.DeviateDrop; kind++ {
				wantDeviation(t, api.Params{P: p, N: 4, T: 1}, api.Deviation{From: 1, Kind: kind, K: k, Of: 4}, true)
			}
		}
	}
}

func TestSenderNeedNotBeCorrupted(t *testing.T) { // P12.1
	s := api.Params{P: smallestPrime, N: 7, T: 2}
	eachCoalition(s, func(bad, _ []int) {
		for from := 1; from <= 7; from++ {
			for to := range 8 {
				for of := 1; of <= 7; of++ {
					w := api.Scenario{S: s, Corrupt: bad, Tapes: make([][]uint64, 7), Deviations: []api.Deviation{{From: from, To: to, Kind: api.DeviateEcho, Of: of}}}
					wantScenario(t, w, true, "coalition", bad, from, to, of)
				}
			}
		}
	})
}

func TestManyDeviations(t *testing.T) { // P12.1
	w := scenario(smallestPrime)
	w.Deviations = slices.Repeat(w.Deviations, 5000)
	wantScenario(t, w, true, "many deviations")
	for _, at := range []int{0, 1, 9999, 19998, 19999} {
		changed := cloned(w)
		changed.Deviations[at].To = 8
		wantScenario(t, changed, false, "many deviations", at)
	}
}

func TestNumberOfTapes(t *testing.T) { // P12.1
	for _, p := range []uint64{smallestPrime, greatestPrime} {
		for _, s := range sizes(p) {
			for count := range 30 {
				w := api.Scenario{S: s, Tapes: make([][]uint64, count)}
				wantScenario(t, w, count == s.N, "nil tapes", s, count)
				for i := range w.Tapes {
					w.Tapes[i] = []uint64{uint64(i), 0}
				}
				wantScenario(t, w, count == s.N, "tapes", s, count)
			}
			wantScenario(t, api.Scenario{S: s}, false, "no tapes", s)
			wantScenario(t, api.Scenario{S: s, Tapes: make([][]uint64, s.N, 20)[:s.N-1]}, false, "spare tapes", s)
		}
	}
}

func TestWordsOfTapes(t *testing.T) { // P12.1
	for _, p := range primes {
		for tape := range 7 {
			for place := range 5 {
				for word, want := range map[uint64]bool{0: true, 1: true, p - 2: true, p - 1: true, p: false, p + 1: false, 2*p + 1: false, 1 << 63: false, math.MaxUint64: false} {
					w := scenario(p)
					w.Tapes = make([][]uint64, 7)
					w.Tapes[tape] = []uint64{1, 2, 3, 4, 5}
					w.Tapes[tape][place] = word
					wantScenario(t, w, want, "word", p, word, tape, place)
					for i := range w.Tapes {
						if i != tape {
							w.Tapes[i] = []uint64{p - 1, 0}
						}
					}
					wantScenario(t, w, want, "word among others", p, word, tape, place)
				}
			}
		}
	}
}

func TestWordsBeyondTapesDoNotCount(t *testing.T) { // P12.1
	w := scenario(smallestPrime)
	w.Tapes[4] = []uint64{30, 31, 32}[:1]
	w.Tapes[6] = []uint64{31, math.MaxUint64}[:0]
	tapes := append(w.Tapes, []uint64{31})
	w.Tapes = tapes[:7]
	deviations := append(w.Deviations, api.Deviation{From: -1})
	w.Deviations = deviations[:len(deviations)-1]
	w.Corrupt = []int{3, 6, 2, 99}[:2]
	wantScenario(t, w, true, "spare capacity")
}

func TestLongTapes(t *testing.T) { // P12.1
	s := &sampler{1}
	for _, p := range []uint64{smallestPrime, greatestPrime} {
		w := scenario(p)
		for i := range w.Tapes {
			w.Tapes[i] = s.elements(p, 50000)
		}
		wantScenario(t, w, true, "long tapes", p)
		for _, place := range []int{0, 25000, 49999} {
			for tape := range w.Tapes {
				kept := w.Tapes[tape][place]
				w.Tapes[tape][place] = p
				wantScenario(t, w, false, "long tapes", p, tape, place)
				w.Tapes[tape][place] = kept
			}
		}
	}
}

// faults makes one part of a scenario invalid each, and only that part, as far as the parts are independent.
func faults(p uint64) []func(w *api.Scenario) {
	return []func(w *api.Scenario){
		func(w *api.Scenario) { w.S.P-- },
		func(w *api.Scenario) { w.S.P = math.MaxUint64 },
		func(w *api.Scenario) { w.S.T = 1 },
		func(w *api.Scenario) { w.S.T = 3 },
		func(w *api.Scenario) { w.S.T = 0 },
		func(w *api.Scenario) { w.Corrupt = []int{6, 3} },
		func(w *api.Scenario) { w.Corrupt = []int{3, 3} },
		func(w *api.Scenario) { w.Corrupt = []int{0, 3} },
		func(w *api.Scenario) { w.Corrupt = []int{3, 8} },
		func(w *api.Scenario) { w.Corrupt = []int{3, 4, 6} },
		func(w *api.Scenario) { w.Deviations[0].Round = -1 },
		func(w *api.Scenario) { w.Deviations[1].At = -1 },
		func(w *api.Scenario) { w.Deviations[3].SrcIndex = -1 },
		func(w *api.Scenario) { w.Deviations[0].From = 0 },
		func(w *api.Scenario) { w.Deviations[3].From = 8 },
		func(w *api.Scenario) { w.Deviations[1].To = -1 },
		func(w *api.Scenario) { w.Deviations[1].To = 8 },
		func(w *api.Scenario) { w.Deviations[0].Kind = 0 },
		func(w *api.Scenario) { w.Deviations[3].Kind = 5 },
		func(w *api.Scenario) { w.Deviations[2].Of = 0 },
		func(w *api.Scenario) { w.Deviations[2].Of = 8 },
		func(w *api.Scenario) { w.Deviations[0].Of = 8 },
		func(w *api.Scenario) { w.Deviations[0].Of = -1 },
		func(w *api.Scenario) { w.Tapes = w.Tapes[:6] },
		func(w *api.Scenario) { w.Tapes = append(w.Tapes, nil) },
		func(w *api.Scenario) { w.Tapes = nil },
		func(w *api.Scenario) { w.Tapes[0][2] = p },
		func(w *api.Scenario) { w.Tapes = append(w.Tapes[:6:6], []uint64{0, p}) },
	}
}

func TestEachPartOfScenario(t *testing.T) { // P12.1
	for _, p := range []uint64{smallestPrime, greatestPrime} {
		for i, fault := range faults(p) {
			w := scenario(p)
			fault(&w)
			wantScenario(t, w, false, "one fault", p, i)
			for j, other := range faults(p)[:5] {
				both := scenario(p)
				fault(&both)
				other(&both)
				// The two faults of a pair touch different parts, or the second one replaces the first.
				wantScenario(t, both, false, "two faults", p, i, j)
			}
		}
	}
}

func TestPartsFitTogether(t *testing.T) { // P12.1
	// Each part would be valid for other parameters.
	for n := 4; n <= 13; n++ {
		s := api.Params{P: smallestPrime, N: n, T: greatestT(n)}
		for party := 1; party <= 15; party++ {
			isParty := party <= n
			w := api.Scenario{S: s, Corrupt: []int{party}, Tapes: make([][]uint64, n)}
			wantScenario(t, w, isParty, "coalition", n, party)
			for _, d := range []api.Deviation{{From: party, Kind: api.DeviateSet}, {From: 1, To: party, Kind: api.DeviateAdd}, {From: 1, Kind: api.DeviateEcho, Of: party}} {
				w = api.Scenario{S: s, Deviations: []api.Deviation{d}, Tapes: make([][]uint64, n)}
				wantScenario(t, w, isParty, "deviation", n, d)
			}
			wantScenario(t, api.Scenario{S: s, Tapes: make([][]uint64, party)}, party == n, "tapes", n, party)
			wantScenario(t, api.Scenario{S: s, Corrupt: counted(1, party), Tapes: make([][]uint64, n)}, party <= s.T, "size of the coalition", n, party)
		}
	}
	tapes := func() [][]uint64 { return [][]uint64{{126}, nil, nil, {31}} }
	for _, p := range primes {
		wantScenario(t, api.Scenario{S: api.Params{P: p, N: 4, T: 1}, Tapes: tapes()}, p > 126, "words", p)
	}
}

func TestInvalidParamsMakeNoScenario(t *testing.T) { // P12.1
	for _, s := range invalidParams() {
		for _, count := range []int{0, 3, 4, 7, 13, 14} {
			wantScenario(t, api.Scenario{S: s, Tapes: make([][]uint64, count)}, false, "parameters", s, count)
		}
	}
}

func TestUnspecifiedCallsEnd(t *testing.T) { // the results are unspecified, but LANGUAGE.md forbids panics and endless loops
	lists := [][]int{nil, {1}, {0}, {-1}, {5}, {14}, {math.MaxInt}, {math.MinInt}, {2, 1}, {1, 1, 1, 1, 1, 1}, counted(1, 40), {1, 2, 3, 4, 5}}
	call := func(s api.Params, l []int) {
		ExtendCoalition(s, l)
		HonestParties(s, l)
		VanishingPolynomial(s, l)
	}
	for _, s := range invalidParams() {
		for _, l := range lists {
			call(s, l)
		}
	}
	for _, s := range sizes(smallestPrime) {
		for _, l := range lists {
			call(s, l)
		}
	}
}

func TestNoStateIsKept(t *testing.T) { // P12.1, P12.2, P12.3
	a, b := api.Params{P: 31, N: 13, T: 4}, api.Params{P: greatestPrime, N: 10, T: 2}
	check := func(s api.Params, bad, all []int) {
		if got := ExtendCoalition(s, bad); !slices.Equal(got, all) {
			t.Errorf("ExtendCoalition(%v, %v) = %v, want %v", s, bad, got, all)
		}
		if got := len(HonestParties(s, bad)); got != s.N-len(bad) {
			t.Errorf("HonestParties(%v, %v): %d parties", s, bad, got)
		}
		if got, want := VanishingPolynomial(s, bad), productOfFactors(s.P, all); !slices.Equal(got, want) {
			t.Errorf("VanishingPolynomial(%v, %v) = %v, want %v", s, bad, got, want)
		}
		if w := scenario(s.P); !ValidScenario(w) {
			t.Errorf("scenario over %d is invalid", s.P)
		}
	}
	var group sync.WaitGroup
	for i := range 8 {
		group.Go(func() {
			r := &sampler{uint64(i)}
			for range 50 {
				party := 5 + r.below(6)
				check(a, []int{party}, []int{1, 2, 3, party})
				check(b, nil, []int{1, 2})
				check(a, []int{1, 2, 3, party}, []int{1, 2, 3, party})
				check(b, []int{party}, []int{1, party})
			}
		})
	}
	group.Wait()
}
