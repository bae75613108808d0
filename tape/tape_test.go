package tape

import (
	"math"
	"math/big"
	"slices"
	"sync"
	"testing"

	"privity/api"
)

var primes = []uint64{31, 127, 8191, 131071, 524287, 2147483647, 2305843009213693951}

// sampler yields a fixed sequence of words, so that every run tests the same cases.
type sampler struct{ state uint64 }

func (s *sampler) word() uint64 {
	s.state += 0x9e3779b97f4a7c15
	z := s.state
	z = (z ^ z>>30) * 0xbf58476d1ce4e5b9
	z = (z ^ z>>27) * 0x94d049bb133111eb
	return z ^ z>>31
}

// below returns a number below n.
func (s *sampler) below(n int) int { return int(s.word() % uint64(n)) }

func (s *sampler) words(count int) []uint64 {
	list := make([]uint64, count)
	for i := range list {
		list[i] = s.word()
	}
	return list
}

// edgeWords are words about the bounds of the fields and of the type.
func edgeWords() []uint64 {
	words := []uint64{0, 1, 1 << 32, 1<<63 - 1, 1 << 63, math.MaxUint64 - 1, math.MaxUint64}
	for _, p := range primes {
		words = append(words, p-1, p, p+1)
	}
	return words
}

// counted returns the words 1, ..., n.
func counted(n int) []uint64 {
	words := make([]uint64, n)
	for i := range words {
		words[i] = uint64(i) + 1
	}
	return words
}

// farCounts are numbers of words that no tape of the tests has.
func farCounts() []int {
	return []int{
		math.MinInt, math.MinInt + 1, math.MinInt + 2, math.MinInt/2 - 1, math.MinInt / 2, math.MinInt32 - 1, math.MinInt32, -1000, -3, -2, -1,
		math.MaxInt32, math.MaxInt32 + 1, math.MaxUint32, math.MaxUint32 + 1, math.MaxInt / 2, math.MaxInt/2 + 1, math.MaxInt - 2, math.MaxInt - 1, math.MaxInt,
	}
}

// eachList calls use with every list of the given length of elements.
func eachList(elements []int, length int, use func(list []int)) {
	if length == 0 {
		use(nil)
		return
	}
	eachList(elements, length-1, func(list []int) {
		for _, e := range elements {
			use(append(slices.Clone(list), e))
		}
	})
}

// checkState checks how many words of a tape remain and are consumed, twice, since to ask must not change it.
func checkState(t *testing.T, x *Tape, remaining, consumed int) {
	t.Helper()
	for range 2 {
		if x.Remaining() != remaining || x.Consumed() != consumed {
			t.Fatalf("Remaining, Consumed = %d, %d, want %d, %d", x.Remaining(), x.Consumed(), remaining, consumed)
		}
	}
}

// checkTake takes n words of a tape of which the given words remain, checks the results and the tape, and returns the words that must remain.
func checkTake(t *testing.T, x *Tape, n int, rest []uint64, consumed int) []uint64 {
	t.Helper()
	checkState(t, x, len(rest), consumed)
	got, errno := x.Take(n)
	if n < 0 || n > len(rest) {
		if len(got) != 0 || errno != api.ErrTapeTooShort {
			t.Fatalf("Take(%d) = %v, %d with %d words left, want an empty list, ErrTapeTooShort", n, got, errno, len(rest))
		}
		checkState(t, x, len(rest), consumed)
		return rest
	}
	if errno != api.OK || !slices.Equal(got, rest[:n]) {
		t.Fatalf("Take(%d) = %v, %d, want %v, OK", n, got, errno, rest[:n])
	}
	if cap(got) != n {
		t.Fatalf("Take(%d): capacity %d, want %d", n, cap(got), n)
	}
	checkState(t, x, len(rest)-n, consumed+n)
	return rest[n:]
}

// checkTakes takes words of a new tape several times and then all that remain.
func checkTakes(t *testing.T, words []uint64, counts ...int) {
	t.Helper()
	x, rest := New(words), words
	for _, n := range counts {
		rest = checkTake(t, x, n, rest, len(words)-len(rest))
	}
	rest = checkTake(t, x, len(rest), rest, len(words)-len(rest))
	checkTake(t, x, 1, rest, len(words))
}

func TestExample(t *testing.T) { // P11.1
	x := New([]uint64{5, 6, 7})
	first, errno := x.Take(2)
	if !slices.Equal(first, []uint64{5, 6}) || errno != api.OK {
		t.Errorf("first Take(2) = %v, %d", first, errno)
	}
	second, errno := x.Take(2)
	if len(second) != 0 || errno != api.ErrTapeTooShort {
		t.Errorf("second Take(2) = %v, %d", second, errno)
	}
	if x.Remaining() != 1 || x.Consumed() != 2 {
		t.Errorf("Remaining, Consumed = %d, %d", x.Remaining(), x.Consumed())
	}
	last, errno := x.Take(1)
	if !slices.Equal(last, []uint64{7}) || errno != api.OK {
		t.Errorf("Take(1) = %v, %d", last, errno)
	}
}

func TestKnownTakes(t *testing.T) { // P11.1
	x := New([]uint64{3, 1, 4, 1, 5, 9, 2})
	steps := []struct {
		n                   int
		want                []uint64
		errno               api.Errno
		remaining, consumed int
	}{
		{0, nil, api.OK, 7, 0},
		{8, nil, api.ErrTapeTooShort, 7, 0},
		{1, []uint64{3}, api.OK, 6, 1},
		{-1, nil, api.ErrTapeTooShort, 6, 1},
		{3, []uint64{1, 4, 1}, api.OK, 3, 4},
		{4, nil, api.ErrTapeTooShort, 3, 4},
		{0, nil, api.OK, 3, 4},
		{2, []uint64{5, 9}, api.OK, 1, 6},
		{math.MinInt, nil, api.ErrTapeTooShort, 1, 6},
		{math.MaxInt, nil, api.ErrTapeTooShort, 1, 6},
		{2, nil, api.ErrTapeTooShort, 1, 6},
		{1, []uint64{2}, api.OK, 0, 7},
		{0, nil, api.OK, 0, 7},
		{1, nil, api.ErrTapeTooShort, 0, 7},
		{-1, nil, api.ErrTapeTooShort, 0, 7},
	}
	if x.Remaining() != 7 || x.Consumed() != 0 {
		t.Fatalf("new tape: Remaining, Consumed = %d, %d", x.Remaining(), x.Consumed())
	}
	for i, s := range steps {
		got, errno := x.Take(s.n)
		if !slices.Equal(got, s.want) || errno != s.errno {
			t.Errorf("step %d: Take(%d) = %v, %d, want %v, %d", i, s.n, got, errno, s.want, s.errno)
		}
		if x.Remaining() != s.remaining || x.Consumed() != s.consumed {
			t.Errorf("step %d: Remaining, Consumed = %d, %d, want %d, %d", i, x.Remaining(), x.Consumed(), s.remaining, s.consumed)
		}
	}
}

func TestEmptyTape(t *testing.T) { // P11.1
	for _, words := range [][]uint64{nil, {}, make([]uint64, 0, 4), counted(4)[:0], counted(4)[4:]} {
		x := New(words)
		if x == nil {
			t.Fatal("no tape")
		}
		for _, n := range append(farCounts(), 0, 1, 2, 3, 4, 5) {
			checkTake(t, x, n, nil, 0)
		}
		checkTake(t, x, 0, nil, 0)
	}
}

func TestNewKeepsAnyWords(t *testing.T) { // P11.1
	s := &sampler{1}
	for _, words := range [][]uint64{
		{0}, {math.MaxUint64}, {7, 7, 7, 7}, make([]uint64, 9), edgeWords(), s.words(3), s.words(1000), counted(2)[:1],
	} {
		checkTakes(t, words)
		checkTakes(t, words, 1)
		checkTakes(t, words, 0, len(words)-1)
	}
}

func TestTakeOfEveryCount(t *testing.T) { // P11.1
	s := &sampler{2}
	for size := range 8 {
		words := s.words(size)
		for consumed := range size + 1 {
			for _, n := range append(farCounts(), -3, -2, -1, 0, 1, 2, 3, 4, 5, 6, 7, 8, 9, 10, 16, 17, 100) {
				checkTakes(t, words, consumed, n)
			}
		}
	}
}

func TestAllSequencesOfTakes(t *testing.T) { // P11.1
	for size := range 6 {
		words := counted(size)
		for length := range 6 {
			eachList([]int{-1, 0, 1, 2, 3, 4, 6}, length, func(counts []int) {
				checkTakes(t, words, counts...)
			})
		}
	}
}

func TestFailingTakesBetweenOthers(t *testing.T) { // P11.1
	s := &sampler{3}
	for range 300 {
		words := s.words(s.below(60))
		var counts []int
		for range 40 {
			counts = append(counts, s.below(5), farCounts()[s.below(len(farCounts()))], len(words)+1+s.below(3), -s.below(3))
		}
		checkTakes(t, words, counts...)
	}
}

func TestFarCountsOnUsedTapes(t *testing.T) { // P11.1
	words := counted(9)
	for consumed := range 10 {
		x := New(words)
		rest := checkTake(t, x, consumed, words, 0)
		for _, n := range farCounts() {
			checkTake(t, x, n, rest, consumed)
			// The sum of such a number and what is consumed is greater than the greatest int or as near to it.
			checkTake(t, x, math.MaxInt-consumed, rest, consumed)
			checkTake(t, x, math.MinInt+consumed, rest, consumed)
			checkTake(t, x, -consumed-1, rest, consumed)
		}
		// Minus what is consumed would lead back to the start.
		if consumed > 0 {
			checkTake(t, x, -consumed, rest, consumed)
		}
		checkTake(t, x, len(rest), rest, consumed)
	}
}

func TestLongTape(t *testing.T) { // P11.1
	s := &sampler{4}
	words := s.words(100000)
	checkTakes(t, words)
	checkTakes(t, words, 100001, 99999, 2, 1, 1)
	x, consumed := New(words), 0
	for n := 0; n <= len(words)-consumed; n++ {
		checkTake(t, x, n, words[consumed:], consumed)
		consumed += n
	}
	checkTake(t, x, len(words)-consumed+1, words[consumed:], consumed)
	checkTake(t, x, len(words)-consumed, words[consumed:], consumed)
}

func TestMethodsShareOneTape(t *testing.T) { // P11.1
	x := New([]uint64{5, 6, 7})
	same := x
	take := x.Take
	if got, errno := take(1); !slices.Equal(got, []uint64{5}) || errno != api.OK {
		t.Fatalf("Take(1) = %v, %d", got, errno)
	}
	checkState(t, same, 2, 1)
	checkTake(t, same, 1, []uint64{6, 7}, 1)
	checkTake(t, x, 1, []uint64{7}, 2)
	checkState(t, same, 0, 3)
}

func TestTapesDoNotShareState(t *testing.T) { // P11.1
	words := counted(6)
	x, y := New(words), New(words)
	checkTake(t, x, 4, words, 0)
	checkState(t, y, 6, 0)
	checkTake(t, y, 2, words, 0)
	checkTake(t, x, 2, words[4:], 4)
	checkTake(t, y, 4, words[2:], 2)
	// A tape of the same memory is new, too.
	checkTakes(t, words, 3, 3)
	// So is a tape of words that another tape has handed out.
	taken, _ := New(words).Take(5)
	z := New(taken)
	overwrite(taken)
	checkTake(t, z, 5, words[:5], 0)
}

// overwrite changes all words of a list and those of its spare capacity.
func overwrite(words []uint64) {
	words = words[:cap(words)]
	for i := range words {
		words[i] = ^words[i] ^ 0x5555
	}
}

func TestAppendChangesNoLaterWord(t *testing.T) { // P11.1
	words := []uint64{5, 6, 7, 8, 9}
	for first := range 6 {
		for second := range 6 - first {
			x := New(words)
			a, _ := x.Take(first)
			a = append(a, 101, 102, 103, 104, 105, 106)
			b, errno := x.Take(second)
			if errno != api.OK || !slices.Equal(b, words[first:first+second]) {
				t.Fatalf("Take(%d) behind an append to the first %d words = %v, %d", second, first, b, errno)
			}
			b = append(b, 201)
			rest, errno := x.Take(5 - first - second)
			if errno != api.OK || !slices.Equal(rest, words[first+second:]) {
				t.Fatalf("the rest behind appends to %d and %d words = %v, %d", first, second, rest, errno)
			}
			rest = append(rest, 301)
			if !slices.Equal(a, append(slices.Clone(words[:first]), 101, 102, 103, 104, 105, 106)) || !slices.Equal(b, append(slices.Clone(words[first:first+second]), 201)) || !slices.Equal(rest, append(slices.Clone(words[first+second:]), 301)) {
				t.Fatalf("appends disturb each other: %v, %v, %v", a, b, rest)
			}
		}
	}
}

func TestCapacityOfTakenWords(t *testing.T) { // P11.1
	s := &sampler{5}
	for _, spare := range []int{0, 1, 7, 100} {
		for size := range 40 {
			words := append(make([]uint64, 0, size+spare), s.words(size)...)
			x := New(words)
			for x.Remaining() > 0 {
				n := s.below(x.Remaining() + 1)
				taken, errno := x.Take(n)
				if errno != api.OK || len(taken) != n || cap(taken) != n {
					t.Fatalf("Take(%d): %d words, capacity %d, error %d", n, len(taken), cap(taken), errno)
				}
			}
			taken, errno := x.Take(0)
			if errno != api.OK || len(taken) != 0 || cap(taken) != 0 {
				t.Fatalf("Take(0) at the end: %d words, capacity %d, error %d", len(taken), cap(taken), errno)
			}
		}
	}
}

func TestWritingChangesNoOtherTake(t *testing.T) { // P11.1
	words := counted(10)
	x := New(words)
	var lists [][]uint64
	for _, n := range []int{3, 0, 2, 1, 4} {
		taken, errno := x.Take(n)
		if errno != api.OK {
			t.Fatalf("Take(%d): error %d", n, errno)
		}
		if start := 10 - x.Remaining() - n; !slices.Equal(taken, words[start:start+n]) {
			t.Fatalf("Take(%d) = %v behind writing to earlier words", n, taken)
		}
		overwrite(taken)
		lists = append(lists, slices.Clone(taken))
		overwrite(taken)
		lists = append(lists, taken)
	}
	for i := 0; i < len(lists); i += 2 {
		overwrite(lists[i])
		if !slices.Equal(lists[i], lists[i+1]) {
			t.Errorf("words taken at step %d changed later", i/2)
		}
	}
}

func TestNewLeavesArgument(t *testing.T) { // P11.1
	memory := counted(9)
	words := memory[2:6]
	x := New(words)
	for _, n := range []int{-1, 0, 1, 9, 2, 1, 1} {
		taken, _ := x.Take(n)
		taken = append(taken, 99)
		overwrite(taken)
	}
	if !slices.Equal(memory, counted(9)) {
		t.Errorf("New's argument is changed: %v", memory)
	}
}

func TestTapeKeepsItsWords(t *testing.T) { // P11.1
	for consumed := range 5 {
		words := counted(4)
		x := New(words)
		rest := checkTake(t, x, consumed, counted(4), 0)
		overwrite(words)
		checkTake(t, x, 4-consumed, rest, consumed)
	}
}

// generated returns word i of the generated tape, by the definition, in integers of any size.
func generated(p, seed uint64, i int) uint64 {
	modulus := new(big.Int).Lsh(big.NewInt(1), 64)
	x := new(big.Int).SetUint64(seed)
	step := new(big.Int).SetUint64(11400714819323198485)
	x.Add(x, step.Mul(step, big.NewInt(int64(i)+1)))
	x.Mod(x, modulus)
	x.Xor(x, new(big.Int).Rsh(x, 32))
	x.Mod(x.Mul(x, new(big.Int).SetUint64(14029467366897019727)), modulus)
	x.Xor(x, new(big.Int).Rsh(x, 29))
	x.Mod(x.Mul(x, new(big.Int).SetUint64(1609587929392839161)), modulus)
	x.Xor(x, new(big.Int).Rsh(x, 32))
	return x.Mod(x, new(big.Int).SetUint64(p)).Uint64()
}

// checkGenerate compares the tape of n words with the definition.
func checkGenerate(t *testing.T, p, seed uint64, n int) {
	t.Helper()
	got := Generate(p, seed, n)
	if len(got) != n {
		t.Fatalf("Generate(%d, %d, %d) has %d words", p, seed, n, len(got))
	}
	for i, word := range got {
		if want := generated(p, seed, i); word != want {
			t.Fatalf("Generate(%d, %d, %d): word %d is %d, want %d", p, seed, n, i, word, want)
		}
	}
}

func TestKnownGeneratedTapes(t *testing.T) { // P11.2
	cases := []struct {
		p, seed uint64
		want    []uint64
	}{
		{31, 0, []uint64{19, 7, 23, 6}},
		{31, 1, []uint64{10, 8, 2, 2}},
		{31, 7, []uint64{1, 8, 26, 15}},
		{31, math.MaxUint64, []uint64{7, 16, 23, 3}},
		// The sum of this seed and the step is 2^64, so x is 0.
		{31, 7046029254386353131, []uint64{0, 19, 7, 23}},
		{127, 0, []uint64{61, 55, 17, 63}},
		{127, 1, []uint64{36, 116, 66, 97}},
		{127, math.MaxUint64, []uint64{37, 84, 36, 97}},
		{8191, 0, []uint64{3975, 7672, 5070, 6240}},
		{8191, math.MaxUint64, []uint64{8082, 7130, 6599, 3563}},
		{131071, 1, []uint64{78585, 46826, 31503, 31427}},
		{131071, math.MaxUint64, []uint64{113496, 112053, 75602, 25455}},
		{524287, 0, []uint64{256714, 484883, 412478, 124560}},
		{524287, 83, []uint64{484229, 310987, 121747, 458590}},
		{2147483647, 7, []uint64{2135830042, 456034624, 854126558, 1596843223}},
		{2147483647, math.MaxUint64, []uint64{1484856816, 1868222622, 1652221635, 1794243844}},
		{2305843009213693951, 0, []uint64{736164284365178822, 64969813858801660, 869092695800255579, 557786042603439458}},
		{2305843009213693951, 1, []uint64{1640121648724762960, 2141826843280481816, 1725467879704974729, 1157939255734361880}},
		{2305843009213693951, 1 << 63, []uint64{1699406225465164765, 409650491268109453, 1324387215499705827, 887461619105734573}},
		{2305843009213693951, math.MaxUint64, []uint64{1663219704838699757, 700705611807457419, 1982963935391848548, 1733155778582752521}},
		{2305843009213693951, 7046029254386353131, []uint64{0, 736164284365178822, 64969813858801660, 869092695800255579}},
	}
	for _, c := range cases {
		for n := range len(c.want) + 1 {
			if got := Generate(c.p, c.seed, n); !slices.Equal(got, c.want[:n]) {
				t.Errorf("Generate(%d, %d, %d) = %v, want %v", c.p, c.seed, n, got, c.want[:n])
			}
		}
	}
	if got := Generate(2305843009213693951, 0, 100000); len(got) != 100000 || got[99999] != 856335931409355033 {
		t.Errorf("the last of 100000 words modulo 2^61 - 1 is wrong")
	}
	if got := Generate(31, math.MaxUint64, 100000); len(got) != 100000 || got[99999] != 29 {
		t.Errorf("the last of 100000 words modulo 31 is wrong")
	}
}

// seeds are edges of the type and seeds for which a step passes 2^64 at once or only by the multiple of its index.
func seeds() []uint64 {
	const step = 11400714819323198485
	list := append(edgeWords(), 2, 7, 16, 83, step, step-1, step+1, 1<<32-1, 1<<32+1, 1<<29, 1<<35)
	for k := range uint64(4) {
		passing := -(k + 1) * uint64(step)
		list = append(list, passing-1, passing, passing+1)
	}
	return list
}

func TestGenerate(t *testing.T) { // P11.2
	s := &sampler{6}
	for _, p := range primes {
		for _, seed := range append(seeds(), s.words(40)...) {
			checkGenerate(t, p, seed, 12)
		}
		for n := range 40 {
			checkGenerate(t, p, s.word(), n)
		}
		for _, seed := range []uint64{0, 1, math.MaxUint64, s.word()} {
			checkGenerate(t, p, seed, 700)
		}
	}
}

func TestGenerateGreatestLength(t *testing.T) { // P11.2
	for _, p := range []uint64{31, 2305843009213693951} {
		checkGenerate(t, p, math.MaxUint64, 100000)
	}
}

func TestGenerateNothing(t *testing.T) { // P11.2
	for _, p := range primes {
		for _, seed := range []uint64{0, 1, 7, math.MaxUint64} {
			for _, n := range []int{0, -1, -2, -3, -100000, math.MinInt32, math.MinInt32 - 1, math.MinInt + 1, math.MinInt} {
				if got := Generate(p, seed, n); len(got) != 0 {
					t.Errorf("Generate(%d, %d, %d) = %v, want an empty list", p, seed, n, got)
				}
			}
		}
	}
}

func TestWordsOfShiftedSeeds(t *testing.T) { // P11.2: word i of a seed is word 0 of the seed that is i steps greater
	s := &sampler{7}
	for _, p := range primes {
		for _, seed := range append(seeds(), s.words(10)...) {
			for i, word := range Generate(p, seed, 50) {
				shifted := Generate(p, seed+uint64(i)*11400714819323198485, 1)
				if len(shifted) != 1 || shifted[0] != word {
					t.Fatalf("p = %d, seed %d: word %d is %d, but %v with the shifted seed", p, seed, i, word, shifted)
				}
			}
		}
	}
}

// eachSplit calls use with every list of positive numbers that sum up to n.
func eachSplit(n int, use func(parts []int)) {
	if n == 0 {
		use(nil)
		return
	}
	for first := 1; first <= n; first++ {
		eachSplit(n-first, func(parts []int) { use(append([]int{first}, parts...)) })
	}
}

// taken returns the words of several calls one after the other.
func taken(t *testing.T, x *Tape, counts []int) []uint64 {
	t.Helper()
	var all []uint64
	for _, n := range counts {
		words, errno := x.Take(n)
		if errno != api.OK {
			t.Fatalf("Take(%d) in %v: error %d", n, counts, errno)
		}
		all = append(all, words...)
	}
	return all
}

func TestSeveralTakesAreOne(t *testing.T) { // P11.3
	s := &sampler{8}
	for size := range 11 {
		words := s.words(size)
		for sum := range size + 1 {
			once, errno := New(words).Take(sum)
			if errno != api.OK {
				t.Fatalf("Take(%d) of %d words: error %d", sum, size, errno)
			}
			eachSplit(sum, func(parts []int) {
				x := New(words)
				if got := taken(t, x, parts); !slices.Equal(got, once) {
					t.Fatalf("words of Take with %v: %v, in one call: %v", parts, got, once)
				}
				checkState(t, x, size-sum, sum)
			})
		}
	}
}

func TestSeveralTakesOfNothing(t *testing.T) { // P11.3
	words := counted(4)
	for length := range 7 {
		eachList([]int{0, 1, 2}, length, func(counts []int) {
			sum := 0
			for _, n := range counts {
				sum += n
			}
			if sum > 4 {
				return
			}
			if got := taken(t, New(words), counts); !slices.Equal(got, words[:sum]) {
				t.Fatalf("words of Take with %v: %v", counts, got)
			}
		})
	}
}

func TestSeveralTakesOfGeneratedTapes(t *testing.T) { // P11.2, P11.3
	s := &sampler{9}
	for _, p := range primes {
		for range 20 {
			seed, size := s.word(), s.below(300)
			x := New(Generate(p, seed, size))
			var counts []int
			for left := size; left > 0; left -= counts[len(counts)-1] {
				counts = append(counts, s.below(left+1))
			}
			if got := taken(t, x, counts); !slices.Equal(got, Generate(p, seed, size)) {
				t.Fatalf("p = %d, seed %d: words of Take with %v differ from those of one call", p, seed, counts)
			}
			checkTake(t, x, 1, nil, size)
		}
	}
}

func TestGeneratedTapesArePrefixes(t *testing.T) { // P11.3
	s := &sampler{10}
	for _, p := range primes {
		for _, seed := range append(seeds(), s.words(5)...) {
			longest := Generate(p, seed, 60)
			for n := -2; n < 60; n++ {
				if got := Generate(p, seed, n); !slices.Equal(got, longest[:max(n, 0)]) {
					t.Fatalf("Generate(%d, %d, %d) is no prefix of the tape of 60 words: %v", p, seed, n, got)
				}
			}
		}
		longest := Generate(p, 5, 100000)
		for _, n := range []int{1, 255, 256, 257, 1000, 65535, 65536, 65537, 99999} {
			if got := Generate(p, 5, n); !slices.Equal(got, longest[:n]) {
				t.Fatalf("Generate(%d, 5, %d) is no prefix of the tape of 100000 words", p, n)
			}
		}
	}
}

func TestGeneratedWordsAreElements(t *testing.T) { // P11.3
	s := &sampler{11}
	for _, p := range primes {
		for _, seed := range append(seeds(), s.word()) {
			for i, word := range Generate(p, seed, 500) {
				if word >= p {
					t.Fatalf("p = %d, seed %d: word %d is %d", p, seed, i, word)
				}
			}
		}
		if greatest := slices.Max(Generate(p, 3, 100000)); greatest >= p {
			t.Fatalf("p = %d: a word is %d", p, greatest)
		}
	}
}

func TestGeneratedTapesAreNew(t *testing.T) { // P11.2
	first := Generate(8191, 5, 20)
	second := Generate(8191, 5, 20)
	overwrite(first)
	if third := Generate(8191, 5, 20); !slices.Equal(second, third) || slices.Equal(first, third) {
		t.Error("tapes of several calls share memory")
	}
	x := New(second)
	overwrite(second)
	checkTake(t, x, 20, Generate(8191, 5, 20), 0)
}

func TestTapesAtTheSameTime(t *testing.T) { // P11.1, P11.2: tapes of several parties share nothing, though their words are one slice
	words := Generate(131071, 9, 2000)
	var group sync.WaitGroup
	for party := range 8 {
		group.Go(func() {
			x, own := New(words), Generate(131071, 9, 2000)
			for consumed := 0; consumed < 2000; consumed += party + 1 {
				n := min(party+1, 2000-consumed)
				got, errno := x.Take(n)
				if errno != api.OK || !slices.Equal(got, own[consumed:consumed+n]) {
					t.Errorf("party %d: words behind %d differ", party, consumed)
					return
				}
				overwrite(got)
			}
		})
	}
	group.Wait()
}

func TestOtherArgumentsEndWithoutPanic(t *testing.T) { // no promise but LANGUAGE.md's: a call does not panic
	for _, x := range []*Tape{nil, {}} {
		for _, n := range append(farCounts(), 0, 1, 2) {
			if words, _ := x.Take(n); len(words) != 0 {
				t.Errorf("Take(%d) of no tape = %v", n, words)
			}
		}
		checkState(t, x, 0, 0)
	}
	for _, p := range []uint64{0, 1, 2, 4, 30, 32, 1 << 61, math.MaxUint64} {
		for _, n := range []int{-1, 0, 1, 30} {
			Generate(p, 5, n)
		}
	}
	if got := Generate(31, 1, 100001); len(got) != 100001 {
		t.Errorf("Generate with more than 100000 words: %d", len(got))
	}
}
