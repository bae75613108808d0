package adversary

import (
	"cmp"
	"fmt"
	"math"
	"math/big"
	"reflect"
	"slices"
	"testing"

	"privity/api"
)

const (
	smallestPrime = 31
	greatestPrime = 2305843009213693951
)

var primes = []uint64{smallestPrime, 127, 8191, 131071, 524287, 2147483647, greatestPrime}

// sampler yields a fixed sequence of words, so that every run tests the same cases.
type sampler struct{ state uint64 }

func (s *sampler) word() uint64 {
	s.state += 0x9e3779b97f4a7c15
	z := s.state
	z = (z ^ z>>30) * 0xbf58476d1ce4e5b9
	z = (z ^ z>>27) * 0x94d049bb133111eb
	return z ^ z>>31
}

// below returns a number below n.
func (s *sampler) below(n int) int { return int(s.word() % uint64(n)) }

// elements returns field elements of the prime p.
func (s *sampler) elements(p uint64, count int) []uint64 {
	list := make([]uint64, count)
	for i := range list {
		list[i] = s.word() % p
	}
	return list
}

// broadcasts returns a message of at most most words for each of n parties.
func (s *sampler) broadcasts(p uint64, n, most int) [][]uint64 {
	list := make([][]uint64, n)
	for i := range list {
		list[i] = s.elements(p, s.below(most+1))
	}
	return list
}

// messages returns a message of at most most words from each of n parties to each of them.
func (s *sampler) messages(p uint64, n, most int) [][][]uint64 {
	list := make([][][]uint64, n)
	for i := range list {
		list[i] = s.broadcasts(p, n, most)
	}
	return list
}

// world returns a scenario of n parties with the greatest threshold.
func world(p uint64, n int, corrupt []int, deviations ...api.Deviation) api.Scenario {
	return api.Scenario{S: api.Params{P: p, N: n, T: (n - 1) / 3}, Corrupt: corrupt, Deviations: deviations, Tapes: make([][]uint64, n)}
}

// toAll returns the messages of parties that send one message each to everybody.
func toAll(sent [][]uint64) [][][]uint64 {
	list := make([][][]uint64, len(sent))
	for i, message := range sent {
		for range sent {
			list[i] = append(list[i], slices.Clone(message))
		}
	}
	return list
}

// equal compares messages; an empty one may be nil or not.
func equal(a, b [][]uint64) bool { return slices.EqualFunc(a, b, slices.Equal) }

// equalMessages compares the messages of all parties to all parties.
func equalMessages(a, b [][][]uint64) bool { return slices.EqualFunc(a, b, equal) }

func copied(messages [][]uint64) [][]uint64 {
	list := slices.Clone(messages)
	for i, message := range list {
		list[i] = slices.Clone(message)
	}
	return list
}

func copiedMessages(out [][][]uint64) [][][]uint64 {
	list := slices.Clone(out)
	for i, messages := range list {
		list[i] = copied(messages)
	}
	return list
}

// checkMessages compares ApplyToMessages with the wanted result, and tells whether its arguments stay as they are.
func checkMessages(t *testing.T, w api.Scenario, round int, out, want [][][]uint64, what ...any) {
	t.Helper()
	kept, keptOut := fmt.Sprintf("%#v", w), copiedMessages(out)
	if got := ApplyToMessages(w, round, out); !equalMessages(got, want) {
		t.Errorf("%v: ApplyToMessages(%v, %d, %v)\n = %v,\nwant %v", what, w, round, keptOut, got, want)
	}
	if fmt.Sprintf("%#v", w) != kept || !reflect.DeepEqual(out, keptOut) {
		t.Errorf("%v: ApplyToMessages(%v, %d, %v) changes its arguments", what, w, round, keptOut)
	}
}

// checkBroadcasts does the same for ApplyToBroadcasts.
func checkBroadcasts(t *testing.T, w api.Scenario, round int, out, want [][]uint64, what ...any) {
	t.Helper()
	kept, keptOut := fmt.Sprintf("%#v", w), copied(out)
	if got := ApplyToBroadcasts(w, round, out); !equal(got, want) {
		t.Errorf("%v: ApplyToBroadcasts(%v, %d, %v)\n = %v,\nwant %v", what, w, round, keptOut, got, want)
	}
	if fmt.Sprintf("%#v", w) != kept || !reflect.DeepEqual(out, keptOut) {
		t.Errorf("%v: ApplyToBroadcasts(%v, %d, %v) changes its arguments", what, w, round, keptOut)
	}
}

// checkBothWays checks both functions for parties that send, or broadcast, one message each to all, if all deviations have To 0 and the party from is to send want instead.
func checkBothWays(t *testing.T, w api.Scenario, round, from int, sent [][]uint64, want []uint64, what ...any) {
	t.Helper()
	changed := copied(sent)
	changed[from-1] = want
	checkBroadcasts(t, w, round, sent, changed, what...)
	messages := toAll(changed)
	messages[from-1][from-1] = sent[from-1]
	checkMessages(t, w, round, toAll(sent), messages, what...)
}

// plusProduct returns word + k times factor modulo p.
func plusProduct(p, word, k, factor uint64) uint64 {
	n := new(big.Int).Mul(new(big.Int).SetUint64(k), new(big.Int).SetUint64(factor))
	n.Add(n, new(big.Int).SetUint64(word))
	return n.Mod(n, new(big.Int).SetUint64(p)).Uint64()
}

// constants are values of K: field elements, the prime, words above it, and the greatest ones.
func constants(p uint64) []uint64 {
	return []uint64{0, 1, 2, 5, p/2 + 1, p - 2, p - 1, p, p + 1, p + 5, 2*p - 1, 2 * p, 2*p + 1, 1 << 32, 1<<61 + 3, 1 << 63, math.MaxUint64 - 1, math.MaxUint64}
}

func TestExample(t *testing.T) { // P13.1, P13.2
	sent := [][]uint64{{1}, {5, 6}, {2, 3}, nil}
	w := world(31, 4, []int{2}, api.Deviation{Round: 7, From: 2, At: 1, Kind: api.DeviateAdd, K: 30})
	checkBothWays(t, w, 7, 2, sent, []uint64{5, 5})
}

func TestKindsWithKnownResults(t *testing.T) { // P13.1, P13.2
	const g = greatestPrime
	for _, c := range []struct {
		p    uint64
		kind int
		k    uint64
		want []uint64 // of the message 10, 20, 30, if party 4 sends 3, 7
	}{
		{31, api.DeviateSet, 0, []uint64{10, 0, 30}},
		{31, api.DeviateSet, 30, []uint64{10, 30, 30}},
		{31, api.DeviateSet, 31, []uint64{10, 0, 30}},
		{31, api.DeviateSet, 33, []uint64{10, 2, 30}},
		{31, api.DeviateSet, math.MaxUint64, []uint64{10, 15, 30}}, // 2^64 is 2^4
		{31, api.DeviateAdd, 0, []uint64{10, 20, 30}},
		{31, api.DeviateAdd, 10, []uint64{10, 30, 30}},
		{31, api.DeviateAdd, 11, []uint64{10, 0, 30}},
		{31, api.DeviateAdd, 31, []uint64{10, 20, 30}},
		{31, api.DeviateAdd, 32, []uint64{10, 21, 30}},
		{31, api.DeviateAdd, math.MaxUint64, []uint64{10, 4, 30}},
		{31, api.DeviateEcho, 0, []uint64{10, 20, 30}},
		{31, api.DeviateEcho, 1, []uint64{10, 27, 30}},
		{31, api.DeviateEcho, 2, []uint64{10, 3, 30}},
		{31, api.DeviateEcho, 31, []uint64{10, 20, 30}},
		{31, api.DeviateEcho, 33, []uint64{10, 3, 30}},
		{31, api.DeviateEcho, math.MaxUint64, []uint64{10, 1, 30}}, // 20 + 15 times 7
		{31, api.DeviateDrop, 5, nil},
		{g, api.DeviateSet, g - 1, []uint64{10, g - 1, 30}},
		{g, api.DeviateSet, g, []uint64{10, 0, 30}},
		{g, api.DeviateSet, g + 2, []uint64{10, 2, 30}},
		{g, api.DeviateSet, math.MaxUint64, []uint64{10, 7, 30}}, // 2^64 is 2^3
		{g, api.DeviateAdd, g - 1, []uint64{10, 19, 30}},
		{g, api.DeviateAdd, g, []uint64{10, 20, 30}},
		{g, api.DeviateAdd, g + 2, []uint64{10, 22, 30}},
		{g, api.DeviateAdd, math.MaxUint64, []uint64{10, 27, 30}},
		{g, api.DeviateEcho, g - 1, []uint64{10, 13, 30}},
		{g, api.DeviateEcho, g, []uint64{10, 20, 30}},
		{g, api.DeviateEcho, g + 2, []uint64{10, 34, 30}},
		{g, api.DeviateEcho, math.MaxUint64, []uint64{10, 69, 30}},
		{g, api.DeviateDrop, math.MaxUint64, nil},
	} {
		sent := [][]uint64{{1}, nil, {10, 20, 30}, {3, 7}}
		w := world(c.p, 4, []int{3}, api.Deviation{Round: 2, From: 3, At: 1, Kind: c.kind, K: c.k, Of: 4, SrcIndex: 1})
		checkBothWays(t, w, 2, 3, sent, c.want, c)
	}
}

func TestKindsOverEveryPrime(t *testing.T) { // P13.1, P13.2
	for _, p := range primes {
		for _, k := range constants(p) {
			for _, word := range []uint64{0, 1, p / 2, p - 2, p - 1} {
				for _, other := range []uint64{0, 1, p/2 + 1, p - 1} {
					sent := [][]uint64{{5, word}, {4, other}, {8}, {9}}
					for kind, want := range map[int][]uint64{
						api.DeviateSet:  {5, plusProduct(p, 0, k, 1)},
						api.DeviateAdd:  {5, plusProduct(p, word, k, 1)},
						api.DeviateEcho: {5, plusProduct(p, word, k, other)},
						api.DeviateDrop: nil,
					} {
						w := world(p, 4, []int{1}, api.Deviation{From: 1, At: 1, Kind: kind, K: k, Of: 2, SrcIndex: 1})
						checkBothWays(t, w, 0, 1, sent, want)
					}
				}
			}
		}
	}
}

// farIndices are far behind every word. If the upper bits of some were lost, they would seem to be small.
var farIndices = []int{100, 1 << 8, 1<<8 + 1, 1 << 16, 1 << 31, 1 << 32, 1<<32 + 1, 1<<32 + 2, 1 << 61, 1 << 62, math.MaxInt - 1, math.MaxInt}

func TestIndexOfWord(t *testing.T) { // P13.1, P13.2
	for _, p := range []uint64{smallestPrime, greatestPrime} {
		for _, message := range [][]uint64{nil, {}, {20}, {20, 21}, {20, 21, 22, 23, 24}} {
			for _, at := range append([]int{0, 1, 2, 3, 4, 5, 6}, farIndices...) {
				sent := [][]uint64{{6}, {7}, {8}, message}
				for kind, change := range map[int]uint64{api.DeviateSet: 3, api.DeviateAdd: 20 + uint64(at)%8 + 3, api.DeviateEcho: 20 + uint64(at)%8 + 3*7} {
					want := slices.Clone(message)
					if at < len(message) {
						want[at] = change % p
					}
					w := world(p, 4, []int{4}, api.Deviation{From: 4, At: at, Kind: kind, K: 3, Of: 2})
					checkBothWays(t, w, 0, 4, sent, want)
				}
				w := world(p, 4, []int{4}, api.Deviation{From: 4, At: at, Kind: api.DeviateDrop, K: 3, Of: 2})
				checkBothWays(t, w, 0, 4, sent, nil)
			}
		}
	}
}

func TestLongMessages(t *testing.T) { // P13.1, P13.2
	const length = 100000
	for _, at := range []int{0, 1, length / 2, length - 1, length} {
		sent := [][]uint64{make([]uint64, length), {1}, make([]uint64, length), nil}
		sent[2][length-1] = 7
		want := slices.Clone(sent[0])
		if at < length {
			want[at] = 3 * 7
		}
		w := world(31, 4, []int{1}, api.Deviation{From: 1, At: at, Kind: api.DeviateEcho, K: 3, Of: 3, SrcIndex: length - 1})
		got, gotMessages := ApplyToBroadcasts(w, 0, sent), ApplyToMessages(w, 0, toAll(sent))
		if !slices.Equal(got[0], want) || !slices.Equal(gotMessages[0][3], want) || !slices.Equal(gotMessages[0][0], sent[0]) {
			t.Errorf("an echo at index %d of a message of %d words is wrong", at, length)
		}
	}
}

// numbered returns messages of two words that all differ: the first one tells the sender, the second one the sender and the receiver.
func numbered(n int) [][][]uint64 {
	list := make([][][]uint64, n)
	for i := range list {
		for j := range n {
			list[i] = append(list[i], []uint64{uint64(i + 1), uint64(20*i + j)})
		}
	}
	return list
}

func TestReceivers(t *testing.T) { // P13.1
	for _, n := range []int{4, 7, 13} {
		for from := 1; from <= n; from++ {
			for to := 0; to <= n; to++ {
				for kind := api.DeviateSet; kind <= api.DeviateDrop; kind++ {
					of := from%n + 1
					out := numbered(n)
					want := copiedMessages(out)
					for j := range n {
						// A deviation to the sender itself, or to all, leaves the message to itself alone.
						if j+1 == from || to != 0 && to != j+1 {
							continue
						}
						own, heard := uint64(20*(from-1)+j), uint64(20*(of-1)+from-1)
						want[from-1][j] = [][]uint64{{uint64(from), 9}, {uint64(from), own + 9}, {uint64(from), own + 9*heard}, nil}[kind-1]
					}
					w := world(greatestPrime, n, []int{from}, api.Deviation{Round: 3, From: from, To: to, At: 1, Kind: kind, K: 9, Of: of, SrcIndex: 1})
					checkMessages(t, w, 3, out, want)
				}
			}
		}
	}
}

func TestReceiversWithKnownResults(t *testing.T) { // P13.1
	out := func() [][][]uint64 {
		return [][][]uint64{{{1}, {2}, {3}, {4}}, {{5}, {6}, {7}, {8}}, {{9}, {10}, {11}, {12}}, {{13}, {14}, {15}, {16}}}
	}
	for _, c := range []struct {
		to   int
		want [][]uint64 // the messages of party 2
	}{
		{0, [][]uint64{{25}, {6}, {27}, {28}}},
		{1, [][]uint64{{25}, {6}, {7}, {8}}},
		{2, [][]uint64{{5}, {6}, {7}, {8}}},
		{3, [][]uint64{{5}, {6}, {27}, {8}}},
		{4, [][]uint64{{5}, {6}, {7}, {28}}},
	} {
		for _, d := range []api.Deviation{
			{From: 2, To: c.to, Kind: api.DeviateAdd, K: 20},
			{From: 2, To: c.to, Kind: api.DeviateEcho, K: 10, Of: 1}, // party 1 sends 2 to party 2
			{From: 2, To: c.to, Kind: api.DeviateEcho, K: 2, Of: 3},  // party 3 sends 10 to party 2
		} {
			want := out()
			want[1] = c.want
			checkMessages(t, world(greatestPrime, 4, []int{2}, d), 0, out(), want)
		}
	}
}

func TestEveryReceiverOfBroadcast(t *testing.T) { // P13.2
	for _, n := range []int{4, 7, 13} {
		for from := 1; from <= n; from++ {
			sent := make([][]uint64, n)
			for i := range sent {
				sent[i] = []uint64{uint64(i), uint64(20 + i)}
			}
			of := from%n + 1
			for kind := api.DeviateSet; kind <= api.DeviateDrop; kind++ {
				own := uint64(20 + from - 1)
				want := copied(sent)
				want[from-1] = [][]uint64{{uint64(from - 1), 9}, {uint64(from - 1), own + 9}, {uint64(from - 1), own + 9*uint64(20+of-1)}, nil}[kind-1]
				for to := 0; to <= n; to++ {
					w := world(8191, n, []int{from}, api.Deviation{Round: 1, From: from, To: to, At: 1, Kind: kind, K: 9, Of: of, SrcIndex: 1})
					checkBroadcasts(t, w, 1, sent, want)
				}
			}
		}
	}
}

// everyKind returns one deviation of each kind.
func everyKind(round, from, to int) []api.Deviation {
	var list []api.Deviation
	for kind := api.DeviateSet; kind <= api.DeviateDrop; kind++ {
		list = append(list, api.Deviation{Round: round, From: from, To: to, Kind: kind, K: 3, Of: from%4 + 1})
	}
	return list
}

// checkUnchanged checks that the deviations change no message, each by itself and all together.
func checkUnchanged(t *testing.T, p uint64, n int, corrupt []int, round int, deviations []api.Deviation) {
	t.Helper()
	sent := make([][]uint64, n)
	for i := range sent {
		sent[i] = []uint64{uint64(i + 1), 7}
	}
	lists := [][]api.Deviation{deviations}
	for _, d := range deviations {
		lists = append(lists, []api.Deviation{d})
	}
	for _, list := range lists {
		w := world(p, n, corrupt, list...)
		checkMessages(t, w, round, numbered(n), numbered(n))
		checkBroadcasts(t, w, round, sent, sent)
	}
}

func TestNoDeviations(t *testing.T) { // P13.1, P13.2
	for _, p := range []uint64{524287, greatestPrime} {
		for _, n := range []int{4, 7, 13} {
			for _, corrupt := range [][]int{nil, {}, {1}, {n}} {
				checkUnchanged(t, p, n, corrupt, 0, nil)
				checkUnchanged(t, p, n, corrupt, 5, []api.Deviation{})
			}
		}
	}
}

func TestHonestSenders(t *testing.T) { // P13.1, P13.2, P13.3
	for _, n := range []int{4, 7, 13} {
		for _, corrupt := range [][]int{nil, {1}, {2}, {n}} {
			var deviations []api.Deviation
			for from := 1; from <= n; from++ {
				if !slices.Contains(corrupt, from) {
					for to := 0; to <= n; to++ {
						deviations = append(deviations, everyKind(4, from, to)...)
					}
				}
			}
			checkUnchanged(t, 8191, n, corrupt, 4, deviations)
		}
	}
}

func TestOtherRounds(t *testing.T) { // P13.1, P13.2, P13.3
	rounds := []int{0, 1, 2, 5, 255, 256, 257, 1 << 31, 1 << 32, 1<<32 + 1, 1 << 62, math.MaxInt - 1, math.MaxInt}
	for _, round := range append([]int{-1, -2, math.MinInt, math.MinInt + 1}, rounds...) {
		var others []api.Deviation
		for _, other := range rounds {
			if other != round {
				others = append(others, everyKind(other, 2, 0)...)
			}
		}
		checkUnchanged(t, 8191, 4, []int{2}, round, others)
		if round < 0 {
			continue // no deviation is of this round
		}
		w := world(8191, 4, []int{2}, append(others, api.Deviation{Round: round, From: 2, Kind: api.DeviateAdd, K: 5})...)
		checkBothWays(t, w, round, 2, [][]uint64{{1}, {2}, {3}, {4}}, []uint64{7}, round)
	}
}

func TestEchoesWithKnownResults(t *testing.T) { // P13.1, P13.2
	sent := [][]uint64{{10, 11, 12}, {1, 2}, nil, {9}, {3, 5}, {6, 8}, {7}}
	for _, c := range []struct {
		of, src, at int
		want        []uint64 // of the message 3, 5 of party 5, beside which party 2 is corrupted
	}{
		{1, 0, 0, []uint64{23, 5}}, {1, 1, 0, []uint64{25, 5}}, {1, 2, 0, []uint64{27, 5}}, // first to last word
		{1, 0, 1, []uint64{3, 25}}, {1, 2, 1, []uint64{3, 29}},
		{1, 3, 0, []uint64{3, 5}}, {1, 3, 1, []uint64{3, 5}}, {1, math.MaxInt, 0, []uint64{3, 5}}, {1, 1 << 32, 1, []uint64{3, 5}}, // no such word
		{3, 0, 0, []uint64{3, 5}}, {3, 0, 1, []uint64{3, 5}}, // an empty message
		{4, 0, 0, []uint64{21, 5}}, {4, 1, 0, []uint64{3, 5}}, // there is a second word in the changed message, but not in the echoed one
		{2, 0, 0, []uint64{3, 5}}, {2, 1, 1, []uint64{3, 5}}, {2, 2, 0, []uint64{3, 5}}, // a corrupted party
		{5, 0, 0, []uint64{3, 5}}, {5, 1, 1, []uint64{3, 5}}, {5, 0, 1, []uint64{3, 5}}, {5, 2, 0, []uint64{3, 5}}, // the sender itself
		{6, 0, 0, []uint64{15, 5}}, {6, 1, 1, []uint64{3, 21}}, {7, 0, 1, []uint64{3, 19}},
		{6, 1, 2, []uint64{3, 5}}, {6, 0, math.MaxInt, []uint64{3, 5}},
	} {
		d := api.Deviation{From: 5, At: c.at, Kind: api.DeviateEcho, K: 2, Of: c.of, SrcIndex: c.src}
		checkBothWays(t, world(31, 7, []int{2, 5}, d), 0, 5, sent, c.want, c)
	}
}

func TestEchoOfEveryParty(t *testing.T) { // P13.1
	for _, n := range []int{4, 7, 13} {
		corrupt := []int{1, n / 2, n - 1, n}[:(n-1)/3]
		for _, from := range corrupt {
			for of := 1; of <= n; of++ {
				for src := range 4 {
					for to := 0; to <= n; to++ {
						out := numbered(n)
						want := copiedMessages(out)
						for j := range n {
							if j+1 != from && (to == 0 || to == j+1) && !slices.Contains(corrupt, of) {
								// The message that counts is the one to the sender of the echo, not the one to its receiver.
								heard := []uint64{uint64(of), uint64(20*(of-1) + from - 1), 0, 0}[src]
								want[from-1][j][0] += 3 * heard
							}
						}
						w := world(greatestPrime, n, corrupt, api.Deviation{From: from, To: to, Kind: api.DeviateEcho, K: 3, Of: of, SrcIndex: src})
						checkMessages(t, w, 0, out, want)
					}
				}
			}
		}
	}
}

func TestEchoPrecedesDeviations(t *testing.T) { // P13.1, P13.2
	sent := [][]uint64{{10, 11}, {20, 21}, {1, 2}, {9, 8}, {5}, {6}, {7}}
	echo := func(of int) api.Deviation {
		return api.Deviation{From: 3, At: 1, Kind: api.DeviateEcho, K: 2, Of: of, SrcIndex: 1}
	}
	for _, of := range []int{2, 3} {
		// These deviations change the word that the echo names, or drop it; before them, and after them, the echo of a corrupted party adds 0.
		for _, d := range []api.Deviation{
			{From: of, At: 1, Kind: api.DeviateSet, K: 4},
			{From: of, At: 1, Kind: api.DeviateAdd, K: 4},
			{From: of, At: 1, Kind: api.DeviateEcho, K: 4, Of: 1},
			{From: of, Kind: api.DeviateDrop},
		} {
			alone := world(127, 7, []int{2, 3}, d)
			for _, list := range [][]api.Deviation{{d, echo(of)}, {echo(of), d}} {
				w := world(127, 7, []int{2, 3}, list...)
				checkMessages(t, w, 0, toAll(sent), ApplyToMessages(alone, 0, toAll(sent)), list)
				checkBroadcasts(t, w, 0, sent, ApplyToBroadcasts(alone, 0, sent), list)
			}
		}
	}
	for _, of := range []int{1, 4} {
		want := []uint64{1, 2 + 2*sent[of-1][1]}
		// The word of an honest party is neither changed nor dropped, whatever is listed for it.
		for _, d := range append(everyKind(0, of, 0), everyKind(0, of, 3)...) {
			checkBothWays(t, world(127, 7, []int{2, 3}, d, echo(of)), 0, 3, sent, want, d)
			checkBothWays(t, world(127, 7, []int{2, 3}, echo(of), d), 0, 3, sent, want, d)
		}
	}
}

func TestEchoOfWordThatReplacesSeveral(t *testing.T) { // P13.1, P13.2
	// Party 2 copies what party 3 sends: it sets its words to 0 and adds those of party 3.
	sent := [][]uint64{{1, 1}, {5, 6}, {12, 30}, {2}}
	var list []api.Deviation
	for at := range 2 {
		list = append(list, api.Deviation{From: 2, At: at, Kind: api.DeviateSet}, api.Deviation{From: 2, At: at, Kind: api.DeviateEcho, K: 1, Of: 3, SrcIndex: at})
	}
	checkBothWays(t, world(31, 4, []int{2}, list...), 0, 2, sent, []uint64{12, 30})
}

func TestOrderWithinOneMessage(t *testing.T) { // P13.1, P13.2
	set := api.Deviation{From: 1, At: 1, Kind: api.DeviateSet, K: 4}
	setAgain := api.Deviation{From: 1, At: 1, Kind: api.DeviateSet, K: 9}
	add := api.Deviation{From: 1, At: 1, Kind: api.DeviateAdd, K: 3}
	echo := api.Deviation{From: 1, At: 1, Kind: api.DeviateEcho, K: 2, Of: 3} // it adds 10
	drop := api.Deviation{From: 1, Kind: api.DeviateDrop}
	first := api.Deviation{From: 1, At: 0, Kind: api.DeviateAdd, K: 30}
	for i, c := range []struct {
		list []api.Deviation
		want []uint64 // of the message 8, 20
	}{
		{[]api.Deviation{set, add}, []uint64{8, 7}}, {[]api.Deviation{add, set}, []uint64{8, 4}},
		{[]api.Deviation{set, setAgain}, []uint64{8, 9}}, {[]api.Deviation{setAgain, set}, []uint64{8, 4}},
		{[]api.Deviation{set, echo}, []uint64{8, 14}}, {[]api.Deviation{echo, set}, []uint64{8, 4}},
		{[]api.Deviation{add, echo}, []uint64{8, 2}}, {[]api.Deviation{echo, add}, []uint64{8, 2}},
		{[]api.Deviation{add, add, add}, []uint64{8, 29}}, {[]api.Deviation{echo, echo}, []uint64{8, 9}},
		{[]api.Deviation{set, first}, []uint64{7, 4}}, {[]api.Deviation{first, set}, []uint64{7, 4}},
		{[]api.Deviation{drop, set}, nil}, {[]api.Deviation{set, drop}, nil},
		{[]api.Deviation{drop, add}, nil}, {[]api.Deviation{add, drop}, nil},
		{[]api.Deviation{drop, echo}, nil}, {[]api.Deviation{echo, drop}, nil},
		{[]api.Deviation{drop, first}, nil}, {[]api.Deviation{drop, drop}, nil},
		{[]api.Deviation{drop, set, add, echo, first}, nil}, {[]api.Deviation{set, drop, add, echo}, nil},
		{[]api.Deviation{add, set, add, echo, add}, []uint64{8, 20}}, {[]api.Deviation{echo, first, add, set, first}, []uint64{6, 4}},
	} {
		checkBothWays(t, world(31, 4, []int{1}, c.list...), 0, 1, [][]uint64{{8, 20}, {1}, {5}, {6}}, c.want, i)
	}
}

func TestOverlappingReceivers(t *testing.T) { // P13.1
	out := toAll([][]uint64{{1}, {2}, {20, 5}, {4}})
	add := func(to int, k uint64) api.Deviation {
		return api.Deviation{From: 3, To: to, Kind: api.DeviateAdd, K: k}
	}
	drop := api.Deviation{From: 3, To: 2, Kind: api.DeviateDrop}
	set := api.Deviation{From: 3, To: 0, Kind: api.DeviateSet, K: 7}
	for i, c := range []struct {
		list []api.Deviation
		want [][]uint64
	}{
		{[]api.Deviation{add(0, 1), add(1, 2), add(4, 3)}, [][]uint64{{23, 5}, {21, 5}, {20, 5}, {24, 5}}},
		{[]api.Deviation{add(1, 2), add(4, 3), add(0, 1)}, [][]uint64{{23, 5}, {21, 5}, {20, 5}, {24, 5}}},
		{[]api.Deviation{add(1, 2), set}, [][]uint64{{7, 5}, {7, 5}, {20, 5}, {7, 5}}},
		{[]api.Deviation{set, add(1, 2)}, [][]uint64{{9, 5}, {7, 5}, {20, 5}, {7, 5}}},
		{[]api.Deviation{drop, set}, [][]uint64{{7, 5}, nil, {20, 5}, {7, 5}}},
		{[]api.Deviation{set, drop}, [][]uint64{{7, 5}, nil, {20, 5}, {7, 5}}},
		{[]api.Deviation{add(3, 1), add(2, 1), add(3, 1)}, [][]uint64{{20, 5}, {21, 5}, {20, 5}, {20, 5}}},
	} {
		want := copiedMessages(out)
		want[2] = c.want
		checkMessages(t, world(31, 4, []int{3}, c.list...), 0, out, want, i)
	}
}

func TestOrderOfDifferentParties(t *testing.T) { // P13.1, P13.2, P13.3
	sent := [][]uint64{{10}, {20}, {5}, {6}, {7}, {8}, {9}}
	var pool []api.Deviation
	for _, d := range slices.Concat(everyKind(0, 1, 0), everyKind(0, 2, 0)) {
		d.Of = 3
		pool = append(pool, d)
	}
	changed := map[int]map[int][]uint64{
		1: {api.DeviateSet: {3}, api.DeviateAdd: {13}, api.DeviateEcho: {25}, api.DeviateDrop: nil},
		2: {api.DeviateSet: {3}, api.DeviateAdd: {23}, api.DeviateEcho: {4}, api.DeviateDrop: nil}, // 35 is 4
	}
	for _, a := range pool[:4] {
		for _, b := range pool[4:] {
			want := copied(sent)
			want[0], want[1] = changed[1][a.Kind], changed[2][b.Kind]
			messages := toAll(want)
			messages[0][0], messages[1][1] = sent[0], sent[1]
			for _, list := range [][]api.Deviation{{a, b}, {b, a}} {
				w := world(31, 7, []int{1, 2}, list...)
				checkBroadcasts(t, w, 0, sent, want, list)
				checkMessages(t, w, 0, toAll(sent), messages, list)
			}
		}
	}
}

func TestManyDeviations(t *testing.T) { // P13.1, P13.2
	list := slices.Repeat([]api.Deviation{{From: 2, Kind: api.DeviateAdd, K: 1}, {Round: 1, From: 2, Kind: api.DeviateDrop}, {From: 1, Kind: api.DeviateDrop}}, 10000)
	sent := [][]uint64{{1}, {2}, {3}, {4}}
	w := world(131071, 4, []int{2}, list...)
	for _, got := range [][]uint64{ApplyToBroadcasts(w, 0, sent)[1], ApplyToMessages(w, 0, toAll(sent))[1][3]} {
		if !slices.Equal(got, []uint64{10002}) {
			t.Errorf("after 10000 additions of 1, party 2 sends %v", got)
		}
	}
}

// expected returns the message that one party sends to another, or to all if to is 0, by the chapter's definitions; heard returns what a party sends to the sender.
func expected(w api.Scenario, round, from, to int, message []uint64, heard func(of int) []uint64) []uint64 {
	isCorrupt := func(party int) bool { return slices.Contains(w.Corrupt, party) }
	result := slices.Clone(message)
	for _, d := range w.Deviations {
		isMeant := to == 0 || to != from && (d.To == to || d.To == 0)
		if d.From != from || !isCorrupt(from) || d.Round != round || !isMeant {
			continue
		}
		if d.Kind == api.DeviateDrop {
			result = []uint64{}
		}
		if d.At >= len(result) {
			continue
		}
		word, factor := result[d.At], uint64(1)
		if d.Kind == api.DeviateSet {
			word = 0
		}
		if d.Kind == api.DeviateEcho {
			factor = 0
			if !isCorrupt(d.Of) && d.SrcIndex < len(heard(d.Of)) {
				factor = heard(d.Of)[d.SrcIndex]
			}
		}
		result[d.At] = plusProduct(w.S.P, word, d.K, factor)
	}
	return result
}

// checkByDefinition compares both functions with the definitions.
func checkByDefinition(t *testing.T, w api.Scenario, round int, out [][][]uint64, sent [][]uint64) {
	t.Helper()
	want, wantSent := copiedMessages(out), copied(sent)
	for i := range out {
		for j := range out {
			want[i][j] = expected(w, round, i+1, j+1, out[i][j], func(of int) []uint64 { return out[of-1][i] })
		}
		wantSent[i] = expected(w, round, i+1, 0, sent[i], func(of int) []uint64 { return sent[of-1] })
	}
	checkMessages(t, w, round, out, want)
	checkBroadcasts(t, w, round, sent, wantSent)
}

// smallDeviations returns all deviations of four parties with small fields; party 2 is the one that is corrupted.
func smallDeviations(p uint64) []api.Deviation {
	var list []api.Deviation
	for _, from := range []int{2, 3} {
		for kind := api.DeviateSet; kind <= api.DeviateDrop; kind++ {
			for at := range 3 {
				for to := range 5 {
					for of := range 5 {
						for src := range 3 {
							if of == 0 && kind == api.DeviateEcho {
								continue
							}
							list = append(list, api.Deviation{Round: 1, From: from, To: to, At: at, Kind: kind, K: p + 3, Of: of, SrcIndex: src})
						}
					}
				}
			}
		}
	}
	return list
}

func TestEverySmallDeviation(t *testing.T) { // P13.1, P13.2
	s := &sampler{1}
	for _, p := range []uint64{smallestPrime, greatestPrime} {
		for i, d := range smallDeviations(p) {
			w := world(p, 4, []int{2}, d)
			checkByDefinition(t, w, i%2, s.messages(p, 4, 2), s.broadcasts(p, 4, 2))
			checkByDefinition(t, w, 1, numbered(4), [][]uint64{{1, 2}, {3, 4}, {5, 6}, {7, 8}})
		}
	}
}

func TestPairsOfSmallDeviations(t *testing.T) { // P13.1, P13.2
	var list []api.Deviation
	for _, d := range smallDeviations(0) {
		if d.From == 2 && d.At < 2 && d.To < 3 && d.SrcIndex == 1 && (d.Of == 2 || d.Of == 4) {
			list = append(list, d)
		}
	}
	for _, a := range list {
		for _, b := range list {
			b.K = 29
			checkByDefinition(t, world(8191, 4, []int{2}, a, b), 1, numbered(4), [][]uint64{{1, 2}, {3, 4}, {5, 6}, {7, 8}})
		}
	}
}

// coalition returns at most T parties.
func (s *sampler) coalition(n int) []int {
	list := make([]int, s.below((n-1)/3+1))
	for i := range list {
		list[i] = 1 + s.below(n)
	}
	slices.Sort(list)
	return slices.Compact(list)
}

// deviations returns deviations most of which are effective in the given round.
func (s *sampler) deviations(p uint64, n, round, count int, corrupt []int) []api.Deviation {
	var list []api.Deviation
	for range count {
		d := api.Deviation{Round: round, From: 1 + s.below(n), To: s.below(n + 1), At: s.below(4), Kind: 1 + s.below(4), K: s.word(), Of: 1 + s.below(n), SrcIndex: s.below(4)}
		if len(corrupt) > 0 && s.below(5) > 0 {
			d.From = corrupt[s.below(len(corrupt))]
		}
		if s.below(3) == 0 {
			d.To = 0
		}
		if s.below(2) == 0 {
			d.K = constants(p)[s.below(len(constants(p)))]
		}
		if s.below(6) == 0 {
			d.Round = s.below(2 * (round + 1))
		}
		if d.Kind == api.DeviateDrop && s.below(3) > 0 {
			d.Kind = api.DeviateEcho // else most messages would be dropped
		}
		list = append(list, d)
	}
	return list
}

// eachSample calls use with samples of scenarios, rounds, messages and broadcast messages.
func eachSample(seed uint64, use func(s *sampler, w api.Scenario, round int, out [][][]uint64, sent [][]uint64)) {
	s := &sampler{seed}
	for _, p := range primes {
		for _, n := range []int{4, 5, 7, 10, 13} {
			for range 12 {
				round, corrupt := s.below(4), s.coalition(n)
				w := world(p, n, corrupt, s.deviations(p, n, round, s.below(5*n), corrupt)...)
				use(s, w, round, s.messages(p, n, 4), s.broadcasts(p, n, 4))
			}
		}
	}
}

func TestSamplesByDefinition(t *testing.T) { // P13.1, P13.2
	eachSample(2, func(_ *sampler, w api.Scenario, round int, out [][][]uint64, sent [][]uint64) {
		checkByDefinition(t, w, round, out, sent)
		checkByDefinition(t, w, round+1, out, sent)
	})
}

func TestHonestMessagesAreNotChanged(t *testing.T) { // P13.3
	eachSample(3, func(_ *sampler, w api.Scenario, round int, out [][][]uint64, sent [][]uint64) {
		got, gotSent := ApplyToMessages(w, round, out), ApplyToBroadcasts(w, round, sent)
		for i := range out {
			isHonest := !slices.Contains(w.Corrupt, i+1)
			if isHonest && (!equal(got[i], out[i]) || !slices.Equal(gotSent[i], sent[i])) {
				t.Errorf("%v: messages of honest party %d are changed", w, i+1)
			}
			if !slices.Equal(got[i][i], out[i][i]) {
				t.Errorf("%v: party %d's message to itself is changed", w, i+1)
			}
		}
	})
}

func TestWhatCorruptedPartyDependsOn(t *testing.T) { // P13.3
	eachSample(4, func(s *sampler, w api.Scenario, round int, out [][][]uint64, sent [][]uint64) {
		got, gotSent := ApplyToMessages(w, round, out), ApplyToBroadcasts(w, round, sent)
		for _, party := range w.Corrupt {
			// All other messages and tapes change; the deviations of all other parties go.
			other, otherSent := s.messages(w.S.P, w.S.N, 4), s.broadcasts(w.S.P, w.S.N, 4)
			other[party-1], otherSent[party-1] = out[party-1], sent[party-1]
			for i := range out {
				if !slices.Contains(w.Corrupt, i+1) {
					other[i][party-1], otherSent[i] = out[i][party-1], sent[i]
				}
			}
			alone := w
			alone.Tapes = s.broadcasts(w.S.P, w.S.N, 9)
			alone.Deviations = slices.DeleteFunc(slices.Clone(w.Deviations), func(d api.Deviation) bool { return d.From != party })
			for _, v := range []api.Scenario{w, alone} {
				if again := ApplyToMessages(v, round, other); !equal(again[party-1], got[party-1]) {
					t.Errorf("%v: party %d sends %v, and %v if others send other messages", v, party, got[party-1], again[party-1])
				}
				if again := ApplyToBroadcasts(v, round, otherSent); !slices.Equal(again[party-1], gotSent[party-1]) {
					t.Errorf("%v: party %d broadcasts %v, and %v if others send other messages", v, party, gotSent[party-1], again[party-1])
				}
			}
		}
	})
}

func TestDeviationsOfOtherRoundsHaveNoEffect(t *testing.T) { // P13.3
	eachSample(5, func(_ *sampler, w api.Scenario, round int, out [][][]uint64, sent [][]uint64) {
		of, others := w, w
		of.Deviations, others.Deviations = nil, nil
		for _, d := range w.Deviations {
			if d.Round == round {
				of.Deviations = append(of.Deviations, d)
			} else {
				others.Deviations = append(others.Deviations, d)
			}
		}
		checkMessages(t, w, round, out, ApplyToMessages(of, round, out))
		checkBroadcasts(t, w, round, sent, ApplyToBroadcasts(of, round, sent))
		checkMessages(t, others, round, out, out)
		checkBroadcasts(t, others, round, sent, sent)
	})
}

func TestOrderBetweenPartiesIsIrrelevant(t *testing.T) { // P13.3
	eachSample(6, func(s *sampler, w api.Scenario, round int, out [][][]uint64, sent [][]uint64) {
		want, wantSent := ApplyToMessages(w, round, out), ApplyToBroadcasts(w, round, sent)
		// A stable sort by any order of the parties keeps the order of the deviations of each party.
		for range 3 {
			rank := s.elements(w.S.P, w.S.N+1)
			sorted := w
			sorted.Deviations = slices.Clone(w.Deviations)
			slices.SortStableFunc(sorted.Deviations, func(a, b api.Deviation) int {
				return cmp.Or(cmp.Compare(rank[a.From], rank[b.From]), cmp.Compare(a.From, b.From))
			})
			checkMessages(t, sorted, round, out, want)
			checkBroadcasts(t, sorted, round, sent, wantSent)
		}
	})
}

func TestTapesHaveNoInfluence(t *testing.T) { // P13.3
	s := &sampler{7}
	w := world(31, 4, []int{2}, api.Deviation{From: 2, Kind: api.DeviateEcho, K: 2, Of: 3})
	for _, length := range []int{0, 1, 50, 100000} {
		for i := range w.Tapes {
			w.Tapes[i] = s.elements(31, length)
		}
		sent := [][]uint64{{1}, {2}, {7}, {4}}
		checkBothWays(t, w, 0, 2, sent, []uint64{16})
	}
}

// withSpare returns a copy of a list that has spare capacity filled with marks, and a function that tells whether all of its memory is as it was.
func withSpare[E any](list []E, marks ...E) ([]E, func() bool) {
	whole := slices.Concat(list, marks)
	kept := slices.Clone(whole)
	return whole[:len(list)], func() bool { return reflect.DeepEqual(whole, kept) }
}

// all returns a function that tells whether every one of the given ones holds.
func all(checks []func() bool) func() bool {
	return func() bool { return !slices.ContainsFunc(checks, func(check func() bool) bool { return !check() }) }
}

// spacious returns copies of messages, all with spare capacity, and a function that tells whether all of their memory is as it was.
func spacious(messages [][]uint64) ([][]uint64, func() bool) {
	var checks []func() bool
	list := make([][]uint64, len(messages))
	for i, message := range messages {
		whole, check := withSpare(message, 77, 78, 79, 80, 81)
		list[i], checks = whole, append(checks, check)
	}
	list, check := withSpare(list, []uint64{82}, []uint64{83, 84})
	return list, all(append(checks, check))
}

// spaciousMessages does the same for the messages to all parties.
func spaciousMessages(out [][][]uint64) ([][][]uint64, func() bool) {
	var checks []func() bool
	list := make([][][]uint64, len(out))
	for i, messages := range out {
		whole, check := spacious(messages)
		list[i], checks = whole, append(checks, check)
	}
	list, check := withSpare(list, [][]uint64{{85}}, [][]uint64{{86}, {87}})
	return list, all(append(checks, check))
}

// spaciousWorld does the same for a scenario.
func spaciousWorld(w api.Scenario) (api.Scenario, func() bool) {
	var checks [3]func() bool
	w.Corrupt, checks[0] = withSpare(w.Corrupt, 1, 2, 3, 4)
	w.Deviations, checks[1] = withSpare(w.Deviations, api.Deviation{From: 1, Kind: api.DeviateDrop}, api.Deviation{From: 2, Kind: api.DeviateDrop})
	w.Tapes, checks[2] = spacious(w.Tapes)
	return w, all(checks[:])
}

func TestArgumentsAreNotChanged(t *testing.T) { // P13.1, P13.2
	eachSample(8, func(s *sampler, w api.Scenario, round int, out [][][]uint64, sent [][]uint64) {
		w.Tapes = s.broadcasts(w.S.P, w.S.N, 5)
		want, wantSent := ApplyToMessages(w, round, out), ApplyToBroadcasts(w, round, sent)
		w, isSameWorld := spaciousWorld(w)
		out, isSameOut := spaciousMessages(out)
		sent, isSameSent := spacious(sent)
		got, gotSent := ApplyToMessages(w, round, out), ApplyToBroadcasts(w, round, sent)
		if !equalMessages(got, want) || !equal(gotSent, wantSent) {
			t.Errorf("%v: spare capacity changes the result", w)
		}
		if !isSameWorld() || !isSameOut() || !isSameSent() {
			t.Errorf("%v: an argument or its spare capacity is changed", w)
		}
		overwrite(gotSent)
		for _, messages := range got {
			overwrite(messages)
		}
		if !isSameWorld() || !isSameOut() || !isSameSent() {
			t.Errorf("%v: a result shares memory with an argument", w)
		}
	})
}

// overwrite changes all messages of a list, and the list, with their spare capacity.
func overwrite(list [][]uint64) {
	list = list[:cap(list)]
	for i, message := range list {
		message = message[:cap(message)]
		for k := range message {
			message[k] = 99
		}
		list[i] = nil
	}
}

func TestResultsAreNewMemory(t *testing.T) { // P13.1, P13.2
	eachSample(9, func(_ *sampler, w api.Scenario, round int, out [][][]uint64, sent [][]uint64) {
		lists := append(ApplyToMessages(w, round, out), ApplyToBroadcasts(w, round, sent))
		kept := copiedMessages(lists)
		for _, messages := range append(slices.Clone(out), sent) {
			overwrite(messages)
		}
		if !equalMessages(lists, kept) {
			t.Errorf("%v: a result changes with an argument", w)
		}
		mark := uint64(0)
		eachWord(lists, func(word *uint64) {
			mark++
			*word = mark
		})
		mark = 0
		eachWord(lists, func(word *uint64) {
			mark++
			if *word != mark {
				t.Errorf("%v: two messages of a result share memory", w)
			}
		})
	})
}

// eachWord calls use with every word of the messages and of their spare capacity.
func eachWord(lists [][][]uint64, use func(word *uint64)) {
	for _, messages := range lists {
		for _, message := range messages {
			message = message[:cap(message)]
			for i := range message {
				use(&message[i])
			}
		}
	}
}

func TestMessagesThatShareMemory(t *testing.T) { // P13.1, P13.2
	// All messages are parts of one list, and those of a party are even the same part.
	words := []uint64{1, 2, 3, 4, 5, 6, 7, 8}
	var out [][][]uint64
	var sent [][]uint64
	for i := range 4 {
		message := words[2*i : 2*i+2]
		sent = append(sent, message)
		out = append(out, [][]uint64{message, message, message, message})
	}
	list := []api.Deviation{{From: 2, To: 3, At: 1, Kind: api.DeviateSet, K: 20}, {From: 2, To: 1, Kind: api.DeviateDrop}, {From: 2, Kind: api.DeviateAdd, K: 5}, {From: 2, To: 4, At: 1, Kind: api.DeviateEcho, K: 2, Of: 3}}
	want := toAll(sent)
	want[1] = [][]uint64{nil, {3, 4}, {8, 20}, {8, 14}}
	checkMessages(t, world(31, 4, []int{2}, list...), 0, out, want)
	w := world(31, 4, []int{2}, list[0], list[2], list[3])
	checkBroadcasts(t, w, 0, sent, [][]uint64{{1, 2}, {8, 30}, {5, 6}, {7, 8}})
	// Party 2 sends what party 1 sends, in the same memory.
	out[1], sent[1] = out[0], sent[0]
	want = toAll(sent)
	want[1] = [][]uint64{nil, {1, 2}, {6, 20}, {6, 12}}
	checkMessages(t, world(31, 4, []int{2}, list...), 0, out, want)
	checkBroadcasts(t, w, 0, sent, [][]uint64{{1, 2}, {6, 30}, {5, 6}, {7, 8}})
}

func TestCallsAreIndependent(t *testing.T) { // P13.1, P13.2: no state is kept
	eachSample(10, func(_ *sampler, w api.Scenario, round int, out [][][]uint64, sent [][]uint64) {
		checkMessages(t, w, round, out, ApplyToMessages(w, round, out))
		checkBroadcasts(t, w, round, sent, ApplyToBroadcasts(w, round, sent))
	})
}

// unspecified returns scenarios that are invalid.
func unspecified() []api.Scenario {
	list := []api.Scenario{{}, {S: api.Params{P: 31, N: 4, T: 1}, Corrupt: []int{2, 1}}}
	for _, s := range []api.Params{{}, {P: 30, N: 4, T: 1}, {N: 4, T: 1}, {P: 31, N: -4, T: 1}, {P: 31, N: 3, T: 1}, {P: 31, N: 100, T: 1}, {P: 31, N: 4, T: -1}, {P: 31, N: math.MaxInt, T: 1}, {P: 31, N: math.MinInt, T: 1}} {
		list = append(list, api.Scenario{S: s, Corrupt: []int{1}, Deviations: everyKind(0, 1, 0)})
	}
	for _, party := range []int{0, -1, 5, 14, math.MaxInt, math.MinInt} {
		list = append(list, world(31, 4, []int{party}, everyKind(0, party, 0)...))
		for kind := -1; kind <= 6; kind++ {
			list = append(list,
				world(31, 4, []int{2}, api.Deviation{From: party, Kind: kind, Of: 1}),
				world(31, 4, []int{2}, api.Deviation{From: 2, To: party, Kind: kind, Of: 1}),
				world(31, 4, []int{2}, api.Deviation{From: 2, Kind: kind, Of: party}),
				world(31, 4, []int{2}, api.Deviation{From: 2, At: min(party, -1), Kind: kind, Of: 1}),
				world(31, 4, []int{2}, api.Deviation{From: 2, Kind: kind, Of: 1, SrcIndex: min(party, -1)}))
		}
	}
	return list
}

func TestUnspecifiedCallsEnd(t *testing.T) { // the results are unspecified, but LANGUAGE.md forbids panics and endless loops
	sent := [][]uint64{{1, 2}, {3, 4}, {5, 6}, {7, 8}}
	for _, w := range unspecified() {
		for _, out := range [][][]uint64{nil, sent, sent[:3], append(copied(sent), nil), make([][]uint64, 13)} {
			ApplyToMessages(w, 0, toAll(out))
			ApplyToBroadcasts(w, 0, out)
		}
	}
	for kind := api.DeviateSet; kind <= api.DeviateDrop; kind++ {
		w := world(31, 4, []int{2}, api.Deviation{From: 2, Kind: kind, K: math.MaxUint64, Of: 4})
		for _, out := range [][][]uint64{nil, sent[:1], sent[:3], append(copied(sent), nil), {{31}, {math.MaxUint64}, nil, {math.MaxUint64 - 1}}} {
			ApplyToBroadcasts(w, 0, out)
			ApplyToMessages(w, 0, toAll(out))
			ApplyToMessages(w, 0, [][][]uint64{out, out, out, out})
			ApplyToMessages(w, 0, [][][]uint64{sent, out, sent, out})
		}
	}
}
