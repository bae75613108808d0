package network

import (
	"math"
	"math/big"
	"reflect"
	"slices"
	"strconv"
	"testing"

	"privity/api"
	"privity/tape"
)

const (
	smallestPrime = 31
	greatestPrime = 2305843009213693951
)

var primes = []uint64{smallestPrime, 127, 8191, 131071, 524287, 2147483647, greatestPrime}

// sampler yields a fixed sequence of words, so that every run tests the same cases.
type sampler struct{ state uint64 }

func (s *sampler) word() uint64 {
	s.state += 0x9e3779b97f4a7c15
	z := s.state
	z = (z ^ z>>30) * 0xbf58476d1ce4e5b9
	z = (z ^ z>>27) * 0x94d049bb133111eb
	return z ^ z>>31
}

// below returns a number below n.
func (s *sampler) below(n int) int { return int(s.word() % uint64(n)) }

// elements returns field elements of the prime p.
func (s *sampler) elements(p uint64, count int) []uint64 {
	list := make([]uint64, count)
	for i := range list {
		list[i] = s.word() % p
	}
	return list
}

// message returns an empty message or one of at most most words.
func (s *sampler) message(p uint64, most int) []uint64 {
	if s.below(4) == 0 {
		return [][]uint64{nil, {}}[s.below(2)]
	}
	return s.elements(p, s.below(most+1))
}

// broadcasts returns the messages that n parties broadcast.
func (s *sampler) broadcasts(p uint64, n, most int) [][]uint64 {
	list := make([][]uint64, n)
	for i := range list {
		list[i] = s.message(p, most)
	}
	return list
}

// messages returns a message from each of n parties to each of them.
func (s *sampler) messages(p uint64, n, most int) [][][]uint64 {
	list := make([][][]uint64, n)
	for i := range list {
		list[i] = s.broadcasts(p, n, most)
	}
	return list
}

// coalition returns at most T parties.
func (s *sampler) coalition(n int) []int {
	list := make([]int, s.below((n-1)/3+1))
	for i := range list {
		list[i] = 1 + s.below(n)
	}
	slices.Sort(list)
	return slices.Compact(list)
}

// deviations returns deviations in the given number of rounds and in one that is not executed; most are of corrupted parties.
func (s *sampler) deviations(w api.Scenario, rounds, count int) []api.Deviation {
	list := make([]api.Deviation, count)
	for i := range list {
		d := api.Deviation{Round: s.below(rounds + 1), From: 1 + s.below(w.S.N), To: s.below(w.S.N + 1), At: s.below(4), Kind: 1 + s.below(4), K: s.word(), Of: 1 + s.below(w.S.N), SrcIndex: s.below(4)}
		if len(w.Corrupt) > 0 && s.below(5) > 0 {
			d.From = w.Corrupt[s.below(len(w.Corrupt))]
		}
		if s.below(3) == 0 {
			d.To = 0
		}
		if d.Kind == api.DeviateDrop && s.below(3) > 0 {
			d.Kind = api.DeviateEcho // else most messages would be dropped
		}
		list[i] = d
	}
	return list
}

// scenario returns a scenario of n parties with deviations in the given number of rounds and tapes of a few words.
func (s *sampler) scenario(p uint64, n, rounds int) api.Scenario {
	w := world(p, n, s.coalition(n))
	w.Deviations = s.deviations(w, rounds, s.below(3*n*rounds+1))
	w.Tapes = s.broadcasts(p, n, 6)
	return w
}

// sampledRounds returns rounds of either kind.
func (s *sampler) sampledRounds(w api.Scenario, count int) []round {
	list := make([]round, count)
	for i := range list {
		if s.below(2) == 0 {
			list[i].sent = s.broadcasts(w.S.P, w.S.N, 4)
		} else {
			list[i].out = s.messages(w.S.P, w.S.N, 4)
		}
	}
	return list
}

// eachSample calls use with samples of scenarios and rounds.
func eachSample(seed uint64, use func(s *sampler, w api.Scenario, rounds []round)) {
	s := &sampler{seed}
	for _, p := range primes {
		for n := api.MinParties; n <= api.MaxParties; n++ {
			for range 3 {
				count := s.below(6)
				w := s.scenario(p, n, count+1)
				use(s, w, s.sampledRounds(w, count))
			}
		}
	}
}

// world returns a scenario of n parties with the greatest threshold.
func world(p uint64, n int, corrupt []int, deviations ...api.Deviation) api.Scenario {
	return api.Scenario{S: api.Params{P: p, N: n, T: (n - 1) / 3}, Corrupt: corrupt, Deviations: deviations, Tapes: make([][]uint64, n)}
}

// round is a point-to-point round if it has messages in out, and else a broadcast round.
type round struct {
	out  [][][]uint64
	sent [][]uint64
}

// execute executes the round and returns what was received: in[j][i] is what party j + 1 received from party i + 1.
// Of a broadcast round it returns one list, as there is one for all.
func (r round) execute(n *Net) [][][]uint64 {
	if r.out != nil {
		return n.Send(r.out)
	}
	return [][][]uint64{n.Broadcast(r.sent)}
}

// silence returns no messages from each of n parties to each of them.
func silence(n int) [][][]uint64 {
	list := make([][][]uint64, n)
	for i := range list {
		list[i] = make([][]uint64, n)
	}
	return list
}

// numbered returns messages that all differ; they tell the sender, the receiver and the round.
func numbered(n, number int) [][][]uint64 {
	list := silence(n)
	for i := range n {
		for j := range n {
			list[i][j] = []uint64{uint64(i + 1), uint64(j + 1), uint64(number)}
		}
	}
	return list
}

// numberedBroadcasts returns broadcast messages that all differ; they tell the sender and the round.
func numberedBroadcasts(n, number int) [][]uint64 {
	list := make([][]uint64, n)
	for i := range list {
		list[i] = []uint64{uint64(i + 1), uint64(number)}
	}
	return list
}

// equal compares messages; an empty one may be nil or not.
func equal(a, b [][]uint64) bool { return slices.EqualFunc(a, b, slices.Equal) }

// equalMessages compares the messages of all parties to all parties.
func equalMessages(a, b [][][]uint64) bool { return slices.EqualFunc(a, b, equal) }

// equalViews compares views.
func equalViews(a, b api.View) bool {
	return slices.EqualFunc(a, b, func(x, y api.Event) bool {
		return x.Round == y.Round && x.From == y.From && slices.Equal(x.Words, y.Words)
	})
}

// equalWorlds compares scenarios; an empty list may be nil or not.
func equalWorlds(a, b api.Scenario) bool {
	return a.S == b.S && slices.Equal(a.Corrupt, b.Corrupt) && slices.Equal(a.Deviations, b.Deviations) && equal(a.Tapes, b.Tapes)
}

func copied(messages [][]uint64) [][]uint64 {
	list := slices.Clone(messages)
	for i, message := range list {
		list[i] = slices.Clone(message)
	}
	return list
}

func copiedMessages(out [][][]uint64) [][][]uint64 {
	list := slices.Clone(out)
	for i, messages := range list {
		list[i] = copied(messages)
	}
	return list
}

func copiedView(view api.View) api.View {
	list := slices.Clone(view)
	for i := range list {
		list[i].Words = slices.Clone(list[i].Words)
	}
	return list
}

func copiedWorld(w api.Scenario) api.Scenario {
	w.Corrupt, w.Deviations, w.Tapes = slices.Clone(w.Corrupt), slices.Clone(w.Deviations), copied(w.Tapes)
	return w
}

// viewsOf returns the views of all parties.
func viewsOf(n *Net) []api.View {
	var list []api.View
	for i := range n.Scenario().S.N {
		list = append(list, n.View(i+1))
	}
	return list
}

// must returns a network for a valid scenario.
func must(t *testing.T, w api.Scenario) *Net {
	t.Helper()
	n, errno := New(w)
	if n == nil || errno != api.OK {
		t.Fatalf("New(%v) = %v, %d", w, n, errno)
	}
	return n
}

// plusProduct returns word + k times factor modulo p.
func plusProduct(p, word, k, factor uint64) uint64 {
	n := new(big.Int).Mul(new(big.Int).SetUint64(k), new(big.Int).SetUint64(factor))
	n.Add(n, new(big.Int).SetUint64(word))
	return n.Mod(n, new(big.Int).SetUint64(p)).Uint64()
}

// deviated returns the message that one party sends to another in a round, or to all if to is 0, by layer 13's definitions; heard returns what a party sends to the sender.
func deviated(w api.Scenario, number, from, to int, message []uint64, heard func(of int) []uint64) []uint64 {
	isCorrupt := func(party int) bool { return slices.Contains(w.Corrupt, party) }
	result := slices.Clone(message)
	for _, d := range w.Deviations {
		isMeant := to == 0 || to != from && (d.To == to || d.To == 0)
		if d.From != from || !isCorrupt(from) || d.Round != number || !isMeant {
			continue
		}
		if d.Kind == api.DeviateDrop {
			result = []uint64{}
		}
		if d.At >= len(result) {
			continue
		}
		word, factor := result[d.At], uint64(1)
		if d.Kind == api.DeviateSet {
			word = 0
		}
		if d.Kind == api.DeviateEcho {
			factor = 0
			if !isCorrupt(d.Of) && d.SrcIndex < len(heard(d.Of)) {
				factor = heard(d.Of)[d.SrcIndex]
			}
		}
		result[d.At] = plusProduct(w.S.P, word, d.K, factor)
	}
	return result
}

// received returns what execute returns for the round with the given number, by the definitions.
func received(w api.Scenario, number int, r round) [][][]uint64 {
	if r.out == nil {
		list := make([][]uint64, w.S.N)
		for i := range list {
			list[i] = deviated(w, number, i+1, 0, r.sent[i], func(of int) []uint64 { return r.sent[of-1] })
		}
		return [][][]uint64{list}
	}
	in := silence(w.S.N)
	for j := range in {
		for i := range in {
			in[j][i] = deviated(w, number, i+1, j+1, r.out[i][j], func(of int) []uint64 { return r.out[of-1][i] })
		}
	}
	return in
}

// events returns the events of party i for what was received in the round with the given number.
func events(in [][][]uint64, number, i int) api.View {
	own := in[0]
	if len(in) > 1 {
		own = in[i-1]
	}
	var list api.View
	for from, words := range own {
		if from+1 != i && len(words) > 0 {
			list = append(list, api.Event{Round: number, From: from + 1, Words: words})
		}
	}
	return list
}

// check executes the rounds on a new network, and compares all that it tells before the rounds and after each with the definitions.
func check(t *testing.T, w api.Scenario, rounds []round) {
	t.Helper()
	n := must(t, w)
	views := make([]api.View, w.S.N)
	checkState(t, n, w, 0, views)
	for number, r := range rounds {
		want := received(w, number, r)
		if got := r.execute(n); !equalMessages(got, want) {
			t.Errorf("%v: round %d of %v:\n got %v,\nwant %v", w, number, r, got, want)
		}
		for i := range views {
			views[i] = append(views[i], events(want, number, i+1)...)
		}
		checkState(t, n, w, number+1, views)
	}
}

// checkState compares what a network tells with the wanted answers.
func checkState(t *testing.T, n *Net, w api.Scenario, rounds int, views []api.View) {
	t.Helper()
	if got := n.Rounds(); got != rounds {
		t.Errorf("%v: Rounds() = %d, want %d", w, got, rounds)
	}
	if got := n.Scenario(); !equalWorlds(got, w) {
		t.Errorf("Scenario() = %v,\nwant %v", got, w)
	}
	for i, want := range views {
		if got := n.View(i + 1); !equalViews(got, want) {
			t.Errorf("%v: after %d rounds, View(%d) = %v,\nwant %v", w, rounds, i+1, got, want)
		}
	}
}

func TestExample(t *testing.T) { // P14.2, P14.3
	n := must(t, world(31, 4, nil))
	out := silence(4)
	out[1][2] = []uint64{7}
	if got, want := n.Send(out), [][][]uint64{make([][]uint64, 4), make([][]uint64, 4), {nil, {7}, nil, nil}, make([][]uint64, 4)}; !equalMessages(got, want) {
		t.Errorf("Send = %v, want %v", got, want)
	}
	for i, want := range []api.View{nil, nil, {{Round: 0, From: 2, Words: []uint64{7}}}, nil} {
		if got := n.View(i + 1); !equalViews(got, want) {
			t.Errorf("View(%d) = %v, want %v", i+1, got, want)
		}
	}
}

func TestKnownRounds(t *testing.T) { // P14.1, P14.2, P14.3
	w := world(31, 4, []int{3},
		api.Deviation{Round: 0, From: 3, To: 1, Kind: api.DeviateAdd, K: 20},
		api.Deviation{Round: 0, From: 3, At: 1, Kind: api.DeviateEcho, K: 2, Of: 2},
		api.Deviation{Round: 1, From: 3, To: 4, At: 0, Kind: api.DeviateSet, K: 33},
		api.Deviation{Round: 2, From: 3, To: 2, Kind: api.DeviateDrop})
	n := must(t, w)
	first := [][][]uint64{
		{{1}, {2, 3}, nil, {4}},
		{{5}, nil, {6, 7}, {8}},
		{{9, 10}, {11}, {12, 13}, {14, 15}},
		{nil, nil, nil, nil},
	}
	wantFirst := [][][]uint64{
		{{1}, {5}, {29, 22}, nil},
		{{2, 3}, nil, {11}, nil},
		{nil, {6, 7}, {12, 13}, nil},
		{{4}, {8}, {14, 27}, nil},
	}
	if got := n.Send(first); !equalMessages(got, wantFirst) {
		t.Errorf("round 0: %v, want %v", got, wantFirst)
	}
	if got, want := n.Broadcast([][]uint64{{1, 1}, nil, {4, 5}, {6}}), [][]uint64{{1, 1}, nil, {2, 5}, {6}}; !equal(got, want) {
		t.Errorf("round 1: %v, want %v", got, want)
	}
	last := silence(4)
	last[2] = [][]uint64{{20}, {21}, {22}, {23}}
	if got, want := n.Send(last), [][][]uint64{{nil, nil, {20}, nil}, {nil, nil, nil, nil}, {nil, nil, {22}, nil}, {nil, nil, {23}, nil}}; !equalMessages(got, want) {
		t.Errorf("round 2: %v, want %v", got, want)
	}
	checkState(t, n, w, 3, []api.View{
		{{Round: 0, From: 2, Words: []uint64{5}}, {Round: 0, From: 3, Words: []uint64{29, 22}}, {Round: 1, From: 3, Words: []uint64{2, 5}}, {Round: 1, From: 4, Words: []uint64{6}}, {Round: 2, From: 3, Words: []uint64{20}}},
		{{Round: 0, From: 1, Words: []uint64{2, 3}}, {Round: 0, From: 3, Words: []uint64{11}}, {Round: 1, From: 1, Words: []uint64{1, 1}}, {Round: 1, From: 3, Words: []uint64{2, 5}}, {Round: 1, From: 4, Words: []uint64{6}}},
		{{Round: 0, From: 2, Words: []uint64{6, 7}}, {Round: 1, From: 1, Words: []uint64{1, 1}}, {Round: 1, From: 4, Words: []uint64{6}}},
		{{Round: 0, From: 1, Words: []uint64{4}}, {Round: 0, From: 2, Words: []uint64{8}}, {Round: 0, From: 3, Words: []uint64{14, 27}}, {Round: 1, From: 1, Words: []uint64{1, 1}}, {Round: 1, From: 3, Words: []uint64{2, 5}}, {Round: 2, From: 3, Words: []uint64{23}}},
	})
}

// invalidWorlds returns scenarios each of which is invalid for one reason.
func invalidWorlds() []api.Scenario {
	var list []api.Scenario
	tapes := make([][]uint64, 4)
	for _, s := range []api.Params{
		{}, {P: 30, N: 4, T: 1}, {P: 61, N: 4, T: 1}, {P: 0, N: 4, T: 1}, {P: math.MaxUint64, N: 4, T: 1},
		{P: 31, N: 4, T: 0}, {P: 31, N: 4, T: 2}, {P: 31, N: 4, T: -1}, {P: 31, N: 4, T: math.MaxInt}, {P: 31, N: 4, T: math.MinInt},
		{P: 31, N: 0, T: 1}, {P: 31, N: -4, T: 1}, {P: 31, N: math.MaxInt, T: 1}, {P: 31, N: math.MinInt, T: 1},
	} {
		list = append(list, api.Scenario{S: s, Tapes: tapes})
	}
	for _, n := range []int{0, 1, 2, 3, 14, 100} {
		list = append(list, api.Scenario{S: api.Params{P: 31, N: n, T: 1}, Tapes: make([][]uint64, n)})
	}
	for _, corrupt := range [][]int{{0}, {-1}, {5}, {math.MaxInt}, {math.MinInt}, {1, 2}, {2, 1}, {2, 2}} {
		list = append(list, world(31, 4, corrupt))
	}
	list = append(list, world(31, 7, []int{3, 2}), world(31, 7, []int{3, 3}), world(31, 7, []int{1, 2, 3}), world(31, 13, []int{1, 2, 3, 4, 5}))
	for _, far := range []int{-1, -2, 5, 14, math.MaxInt, math.MinInt} {
		list = append(list,
			world(31, 4, []int{2}, api.Deviation{From: far, Kind: api.DeviateSet}),
			world(31, 4, []int{2}, api.Deviation{From: 2, To: far, Kind: api.DeviateSet}),
			world(31, 4, []int{2}, api.Deviation{From: 2, Kind: far, Of: 1}),
			world(31, 4, []int{2}, api.Deviation{From: 2, Kind: api.DeviateEcho, Of: far}),
			world(31, 4, []int{2}, api.Deviation{From: 2, Round: min(far, -1), Kind: api.DeviateSet}),
			world(31, 4, []int{2}, api.Deviation{From: 2, At: min(far, -1), Kind: api.DeviateSet}),
			world(31, 4, []int{2}, api.Deviation{From: 2, SrcIndex: min(far, -1), Kind: api.DeviateSet}))
	}
	list = append(list,
		world(31, 4, []int{2}, api.Deviation{Kind: api.DeviateSet}),
		world(31, 4, []int{2}, api.Deviation{From: 2}),
		world(31, 4, []int{2}, api.Deviation{From: 2, Kind: api.DeviateEcho}),
		world(31, 4, []int{2}, api.Deviation{From: 2, Kind: api.DeviateDrop}, api.Deviation{From: 2}))
	for _, wrong := range [][][]uint64{nil, {}, tapes[:3], make([][]uint64, 5), {nil, nil, nil, {31}}, {{0, 1, 32}, nil, nil, nil}, {nil, {math.MaxUint64}, nil, nil}} {
		w := world(31, 4, []int{2})
		w.Tapes = wrong
		list = append(list, w)
	}
	return list
}

func TestNewOfInvalidScenario(t *testing.T) { // P14.1
	for _, w := range invalidWorlds() {
		if n, errno := New(w); n != nil || errno != api.ErrArg {
			t.Errorf("New(%v) = %v, %d, want no network and ErrArg", w, n, errno)
		}
	}
}

func TestNewNetwork(t *testing.T) { // P14.1, P14.2, P14.3
	s := &sampler{1}
	for _, p := range primes {
		for n := api.MinParties; n <= api.MaxParties; n++ {
			greatest := []int{1, n - 2, n - 1, n}[:(n-1)/3]
			for _, corrupt := range [][]int{nil, {}, {1}, {n}, greatest} {
				w := world(p, n, corrupt, s.deviations(world(p, n, corrupt), 3, s.below(5))...)
				w.Tapes = s.broadcasts(p, n, 5)
				check(t, w, nil)
				check(t, w, s.sampledRounds(w, 3))
			}
		}
	}
}

func TestNewWithGreatestElements(t *testing.T) { // P14.1
	for _, p := range primes {
		w := world(p, 4, []int{2}, api.Deviation{Round: math.MaxInt, From: 2, At: math.MaxInt, Kind: api.DeviateEcho, K: math.MaxUint64, Of: 4, SrcIndex: math.MaxInt})
		w.Tapes = [][]uint64{{p - 1}, {0, p - 1}, nil, {p - 1, p - 1, 0}}
		check(t, w, []round{{out: numbered(4, 0)}, {sent: numberedBroadcasts(4, 1)}})
		w.Tapes[2] = []uint64{1, p}
		if n, errno := New(w); n != nil || errno != api.ErrArg {
			t.Errorf("New = %v, %d, though a tape contains the prime %d", n, errno, p)
		}
	}
}

func TestRoundsWithoutDeviations(t *testing.T) { // P14.1, P14.2, P14.3, P14.4
	for _, p := range primes {
		for n := api.MinParties; n <= api.MaxParties; n++ {
			for _, corrupt := range [][]int{nil, {1}, {n}} {
				w := world(p, n, corrupt)
				sent, out := numberedBroadcasts(n, 0), numbered(n, 1)
				check(t, w, []round{{sent: sent}, {out: out}, {out: out}, {sent: sent}})
				net := must(t, w)
				if got := net.Broadcast(sent); !equal(got, sent) {
					t.Errorf("%v: %v is broadcast, and %v received", w, sent, got)
				}
				for j, received := range net.Send(out) {
					for i, words := range received {
						if !slices.Equal(words, out[i][j]) {
							t.Errorf("%v: party %d receives %v from party %d", w, j+1, words, i+1)
						}
					}
				}
			}
		}
	}
}

func TestOrderOfEvents(t *testing.T) { // P14.3
	for _, n := range []int{4, 7, 13} {
		net := must(t, world(8191, n, nil))
		var want []api.View
		for range n {
			want = append(want, nil)
		}
		for number := range 5 {
			if number == 1 || number == 4 {
				net.Broadcast(numberedBroadcasts(n, number))
			} else {
				net.Send(numbered(n, number))
			}
			for i := range n {
				for from := 1; from <= n; from++ {
					words := []uint64{uint64(from), uint64(i + 1), uint64(number)}
					if number == 1 || number == 4 {
						words = []uint64{uint64(from), uint64(number)}
					}
					if from != i+1 {
						want[i] = append(want[i], api.Event{Round: number, From: from, Words: words})
					}
				}
				if got := net.View(i + 1); !equalViews(got, want[i]) {
					t.Errorf("%d parties, after round %d: View(%d) = %v, want %v", n, number, i+1, got, want[i])
				}
			}
		}
	}
}

func TestEmptyLists(t *testing.T) { // P14.1, P14.2, P14.3
	for _, n := range []int{4, 7, 13} {
		empty := silence(n)
		for i := range n {
			for j := range i {
				empty[i][j] = []uint64{}
			}
		}
		// Rounds in which nobody sends anything count, and leave no event.
		net := must(t, world(31, n, []int{1}, api.Deviation{From: 1, Kind: api.DeviateSet, K: 3}))
		for number, r := range []round{{out: empty}, {sent: empty[0]}, {sent: make([][]uint64, n)}, {out: empty}} {
			r.execute(net)
			if net.Rounds() != number+1 {
				t.Errorf("Rounds() = %d after %d empty rounds", net.Rounds(), number+1)
			}
		}
		for i, view := range viewsOf(net) {
			if len(view) != 0 {
				t.Errorf("after empty rounds, View(%d) = %v", i+1, view)
			}
		}
		// One list is empty, or one alone is not.
		for from := range n {
			for to := range n {
				full, single := numbered(n, 0), silence(n)
				full[from][to] = empty[from][to]
				single[from][to] = []uint64{7}
				fullSent, singleSent := numberedBroadcasts(n, 0), make([][]uint64, n)
				fullSent[from] = empty[from][to]
				singleSent[from] = []uint64{7, 0}
				check(t, world(31, n, nil), []round{{out: full}, {sent: fullSent}, {out: single}, {sent: singleSent}})
			}
		}
	}
}

func TestListsOfZeros(t *testing.T) { // P14.3: a list of zeros is no empty list
	out, sent := silence(4), make([][]uint64, 4)
	out[0][1], sent[2] = []uint64{0}, []uint64{0, 0}
	check(t, world(31, 4, nil), []round{{out: out}, {sent: sent}})
	n := must(t, world(31, 4, nil))
	n.Send(out)
	if got := n.View(2); len(got) != 1 || !slices.Equal(got[0].Words, []uint64{0}) {
		t.Errorf("View(2) = %v", got)
	}
}

func TestListsToOneself(t *testing.T) { // P14.2, P14.3
	for _, n := range []int{4, 7, 13} {
		for party := 1; party <= n; party++ {
			for kind := api.DeviateSet; kind <= api.DeviateDrop; kind++ {
				for _, to := range []int{0, party} {
					w := world(31, n, []int{party}, api.Deviation{From: party, To: to, Kind: kind, K: 3, Of: party%n + 1})
					net := must(t, w)
					out := silence(n)
					for i := range n {
						out[i][i] = []uint64{uint64(i + 10)}
					}
					for i, received := range net.Send(out) {
						if !slices.Equal(received[i], out[i][i]) {
							t.Errorf("%v: party %d receives %v from itself", w, i+1, received[i])
						}
						if view := net.View(i + 1); len(view) != 0 {
							t.Errorf("%v: View(%d) = %v, though all sent to themselves only", w, i+1, view)
						}
					}
				}
			}
		}
	}
}

func TestBroadcastsToOneself(t *testing.T) { // P14.2, P14.3: in a broadcast, the sender receives what the others receive
	w := world(31, 4, []int{3}, api.Deviation{From: 3, Kind: api.DeviateSet, K: 9}, api.Deviation{Round: 1, From: 3, Kind: api.DeviateDrop})
	n := must(t, w)
	if got, want := n.Broadcast([][]uint64{{1}, {2}, {3}, {4}}), [][]uint64{{1}, {2}, {9}, {4}}; !equal(got, want) {
		t.Errorf("Broadcast = %v, want %v", got, want)
	}
	if got, want := n.Broadcast([][]uint64{{1}, {2}, {3}, {4}}), [][]uint64{{1}, {2}, nil, {4}}; !equal(got, want) {
		t.Errorf("Broadcast = %v, want %v", got, want)
	}
	for i, view := range viewsOf(n) {
		for _, event := range view {
			if event.From == i+1 || event.Round == 1 && event.From == 3 {
				t.Errorf("View(%d) contains %v", i+1, event)
			}
		}
	}
}

// sequences returns all sequences of at most the given number of rounds, each of them of either kind.
func sequences(n, most int) [][]round {
	list := [][]round{nil}
	for from := 0; from < len(list); from++ {
		if number := len(list[from]); number < most {
			list = append(list,
				append(slices.Clone(list[from]), round{out: numbered(n, number)}),
				append(slices.Clone(list[from]), round{sent: numberedBroadcasts(n, number)}))
		}
	}
	return list
}

func TestEverySequenceOfRounds(t *testing.T) { // P14.1, P14.2, P14.3
	everywhere := world(31, 4, []int{2})
	for number := range 7 {
		everywhere.Deviations = append(everywhere.Deviations,
			api.Deviation{Round: number, From: 2, To: 3, Kind: api.DeviateSet, K: uint64(10 + number)},
			api.Deviation{Round: number, From: 2, At: 1, Kind: api.DeviateEcho, K: uint64(1 + number), Of: 4},
			api.Deviation{Round: number, From: 2, To: 1, Kind: api.DeviateAdd, K: uint64(20 + number)})
	}
	dropped := world(31, 4, []int{4}, api.Deviation{Round: 2, From: 4, To: 1, Kind: api.DeviateDrop}, api.Deviation{Round: 3, From: 4, Kind: api.DeviateDrop})
	for _, rounds := range sequences(4, 6) {
		check(t, everywhere, rounds)
		check(t, dropped, rounds)
	}
}

func TestRoundOfDeviation(t *testing.T) { // P14.2: deviations are applied in their round, whatever rounds precede it
	for number := range 4 {
		for _, rounds := range sequences(4, 5) {
			w := world(31, 4, []int{2}, api.Deviation{Round: number, From: 2, To: 3, Kind: api.DeviateSet, K: 30})
			n := must(t, w)
			for k, r := range rounds {
				in := r.execute(n)
				got, want := in[len(in)-1][1][0], uint64(2)
				if r.out != nil {
					got = in[2][1][0]
				}
				if k == number {
					want = 30
				}
				if got != want {
					t.Errorf("deviation of round %d: in round %d, party 3 receives %d from party 2", number, k, got)
				}
			}
		}
	}
}

func TestManyRounds(t *testing.T) { // P14.1, P14.2, P14.3: the round number has more than 16 bits
	const last = 1<<16 + 300
	var list []api.Deviation
	places := []int{0, 1, 255, 256, 257, 1<<16 - 1, 1 << 16, 1<<16 + 256, last}
	for _, number := range places {
		list = append(list, api.Deviation{Round: number, From: 2, Kind: api.DeviateSet, K: uint64(number)})
	}
	n := must(t, world(2147483647, 4, []int{2}, list...))
	for number := range last + 1 {
		want := uint64(1<<20 + number)
		isPlace := slices.Contains(places, number)
		var got []uint64
		if number%2 == 0 {
			got = n.Broadcast([][]uint64{nil, {want}, nil, nil})[1]
		} else {
			out := silence(4)
			out[1][3] = []uint64{want}
			got = n.Send(out)[3][1]
		}
		if isPlace {
			want = uint64(number)
		}
		if !slices.Equal(got, []uint64{want}) || n.Rounds() != number+1 {
			t.Fatalf("in round %d of %d, party 4 receives %v instead of %d", number, n.Rounds(), got, want)
		}
	}
	for i, wanted := range []int{last/2 + 1, 0, last/2 + 1, last + 1} {
		view := n.View(i + 1)
		if len(view) != wanted {
			t.Errorf("View(%d) has %d events, want %d", i+1, len(view), wanted)
		}
		for k, event := range view {
			number := k
			if i < 3 {
				number = 2 * k
			}
			if event.Round != number || event.From != 2 {
				t.Fatalf("View(%d): event %d is %v", i+1, k, event)
			}
		}
	}
}

func TestLongMessages(t *testing.T) { // P14.2, P14.3
	s := &sampler{2}
	words := s.elements(greatestPrime, 100000)
	out := silence(4)
	out[2][1] = words
	n := must(t, world(greatestPrime, 4, []int{3}, api.Deviation{Round: 0, From: 3, At: 99999, Kind: api.DeviateSet, K: 5}))
	in, all := n.Send(out), n.Broadcast(out[2])
	want := append(slices.Clone(words[:99999]), 5)
	if !slices.Equal(in[1][2], want) || !slices.Equal(all[1], words) {
		t.Error("a long message is not received as it was sent")
	}
	if view := n.View(2); len(view) != 1 || !slices.Equal(view[0].Words, want) {
		t.Error("a long message is not in the view as it was received")
	}
	if view := n.View(4); len(view) != 1 || !slices.Equal(view[0].Words, words) {
		t.Error("a long broadcast is not in the view as it was received")
	}
}

// smallDeviations returns all deviations of four parties with small fields; party 2 is the one that is corrupted.
func smallDeviations(p uint64) []api.Deviation {
	var list []api.Deviation
	for number := range 3 {
		for _, from := range []int{2, 3} {
			for kind := api.DeviateSet; kind <= api.DeviateDrop; kind++ {
				for at := range 2 {
					for to := range 5 {
						for of := 1; of <= 4; of++ {
							list = append(list, api.Deviation{Round: number, From: from, To: to, At: at, Kind: kind, K: p + 3, Of: of, SrcIndex: (at + of) % 2})
						}
					}
				}
			}
		}
	}
	return list
}

func TestEverySmallDeviation(t *testing.T) { // P14.2, P14.3
	s := &sampler{3}
	for _, p := range []uint64{smallestPrime, greatestPrime} {
		for _, d := range smallDeviations(p) {
			w := world(p, 4, []int{2}, d)
			check(t, w, []round{{out: numbered(4, 7)}, {sent: numberedBroadcasts(4, 8)}})
			check(t, w, []round{{sent: numberedBroadcasts(4, 7)}, {out: numbered(4, 8)}})
			check(t, w, s.sampledRounds(w, 3))
		}
	}
}

func TestSamples(t *testing.T) { // P14.1, P14.2, P14.3
	eachSample(4, func(_ *sampler, w api.Scenario, rounds []round) { check(t, w, rounds) })
}

func TestEchoOfTheSameRound(t *testing.T) { // P14.2
	// Party 1 passes on to party 4 what party 3 sends to it in the same round, and nothing of the round before.
	w := world(greatestPrime, 4, []int{1})
	for number := range 4 {
		w.Deviations = append(w.Deviations, api.Deviation{Round: number, From: 1, To: 4, Kind: api.DeviateEcho, K: 1, Of: 3, SrcIndex: 1})
	}
	n := must(t, w)
	for number := range 4 {
		heard := uint64(100 + number)
		out := silence(4)
		out[0][3], out[0][1], out[2][0], out[2][3] = []uint64{5}, []uint64{5}, []uint64{1, heard}, []uint64{1, 900}
		sent := [][]uint64{{5}, nil, {1, heard}, nil}
		var got, other uint64
		if number%2 == 0 {
			in := n.Send(out)
			got, other = in[3][0][0], in[1][0][0]
		} else {
			got, other = n.Broadcast(sent)[0][0], 5
		}
		if got != 5+heard || other != 5 {
			t.Errorf("in round %d, party 4 receives %d and party 2 receives %d", number, got, other)
		}
	}
}

func TestTapes(t *testing.T) { // P14.3
	s := &sampler{5}
	for _, p := range []uint64{smallestPrime, greatestPrime} {
		for _, n := range []int{4, 7, 13} {
			w := world(p, n, []int{n})
			for i := range w.Tapes {
				w.Tapes[i] = s.elements(p, []int{3, 0, 100000, 1, 20}[i%5])
			}
			net := must(t, w)
			for i, words := range w.Tapes {
				checkTape(t, net, i+1, words)
			}
			for i, words := range w.Tapes {
				if left := net.Tape(i + 1).Remaining(); left != 0 {
					t.Errorf("%d of %d words of Tape(%d) remain", left, len(words), i+1)
				}
			}
			if !equalWorlds(net.Scenario(), w) {
				t.Error("taking words from the tapes changes the scenario")
			}
		}
	}
}

// checkTape takes all words of a tape of which none is consumed, and asks for the tape before each time.
func checkTape(t *testing.T, n *Net, i int, words []uint64) {
	t.Helper()
	first := n.Tape(i)
	if first == nil || first.Remaining() != len(words) || first.Consumed() != 0 {
		t.Fatalf("Tape(%d) has not %d words of which none is consumed", i, len(words))
	}
	start, errno := first.Take(len(words) / 3)
	if errno != api.OK || !slices.Equal(start, words[:len(words)/3]) {
		t.Errorf("Tape(%d): the first %d words are %v, %d", i, len(words)/3, start, errno)
	}
	if n.Tape(i) != first || n.Tape(i).Consumed() != len(start) || n.Tape(i).Remaining() != len(words)-len(start) {
		t.Errorf("Tape(%d) is another tape after words were taken", i)
	}
	rest, errno := n.Tape(i).Take(len(words) - len(start))
	if errno != api.OK || !slices.Equal(rest, words[len(start):]) {
		t.Errorf("Tape(%d): the other words are %v, %d", i, rest, errno)
	}
	if none, errno := n.Tape(i).Take(1); len(none) != 0 || errno != api.ErrTapeTooShort {
		t.Errorf("Tape(%d): one word too many: %v, %d", i, none, errno)
	}
}

func TestTapesAndRounds(t *testing.T) { // P14.3: rounds take nothing from the tapes
	w := world(31, 4, []int{2}, api.Deviation{Round: 1, From: 2, Kind: api.DeviateAdd, K: 1})
	w.Tapes = [][]uint64{{1, 2, 3}, {4, 5}, nil, {6}}
	n := must(t, w)
	tapes := make([]*tape.Tape, 4)
	for i := range tapes {
		tapes[i] = n.Tape(i + 1)
	}
	if words, _ := tapes[0].Take(1); !slices.Equal(words, []uint64{1}) {
		t.Errorf("the first word of party 1 is %v", words)
	}
	for number := range 4 {
		n.Send(numbered(4, number))
		n.Broadcast(numberedBroadcasts(4, number))
		for i, remaining := range []int{2, 2, 0, 1} {
			if n.Tape(i+1) != tapes[i] || n.Tape(i+1).Remaining() != remaining {
				t.Errorf("after %d rounds, Tape(%d) has %d words", n.Rounds(), i+1, n.Tape(i+1).Remaining())
			}
		}
	}
	if words, errno := n.Tape(1).Take(2); errno != api.OK || !slices.Equal(words, []uint64{2, 3}) {
		t.Errorf("the other words of party 1 are %v, %d", words, errno)
	}
}

func TestResizeWithKnownResults(t *testing.T) { // P14.3
	for _, c := range []struct {
		l    []uint64
		n    int
		want []uint64
	}{
		{nil, 0, nil}, {nil, 1, []uint64{0}}, {nil, 3, []uint64{0, 0, 0}},
		{[]uint64{}, 0, nil}, {[]uint64{}, 2, []uint64{0, 0}},
		{[]uint64{7}, 0, nil}, {[]uint64{7}, 1, []uint64{7}}, {[]uint64{7}, 2, []uint64{7, 0}},
		{[]uint64{7, 8, 9}, 0, nil}, {[]uint64{7, 8, 9}, 1, []uint64{7}}, {[]uint64{7, 8, 9}, 2, []uint64{7, 8}},
		{[]uint64{7, 8, 9}, 3, []uint64{7, 8, 9}}, {[]uint64{7, 8, 9}, 4, []uint64{7, 8, 9, 0}}, {[]uint64{7, 8, 9}, 6, []uint64{7, 8, 9, 0, 0, 0}},
		{[]uint64{0, 0}, 1, []uint64{0}}, {[]uint64{math.MaxUint64, greatestPrime}, 3, []uint64{math.MaxUint64, greatestPrime, 0}},
	} {
		if got := Resize(c.l, c.n); !slices.Equal(got, c.want) {
			t.Errorf("Resize(%v, %d) = %v, want %v", c.l, c.n, got, c.want)
		}
	}
}

func TestResizeOfEveryLength(t *testing.T) { // P14.3
	s := &sampler{6}
	for length := range 40 {
		for n := range 50 {
			whole := make([]uint64, length+20)
			for i := range whole {
				whole[i] = s.word() | 1
			}
			kept, l := slices.Clone(whole), whole[:length]
			got := Resize(l, n)
			if len(got) != n {
				t.Fatalf("Resize of %d words to %d has %d words", length, n, len(got))
			}
			for i, word := range got {
				// The words behind the list's end are not 0.
				if i < length && word != kept[i] || i >= length && word != 0 {
					t.Errorf("Resize(%v, %d) = %v", l, n, got)
				}
			}
			for i := range got[:cap(got)] {
				got[:cap(got)][i] = 2
			}
			if !slices.Equal(whole, kept) {
				t.Errorf("Resize of %d words to %d changes its argument, or shares memory with it", length, n)
			}
		}
	}
	if got := Resize([]uint64{5}, 1000000); len(got) != 1000000 || got[0] != 5 || slices.Max(got[1:]) != 0 {
		t.Error("Resize to a million words is wrong")
	}
	if got := Resize(make([]uint64, 1000000), 2); !slices.Equal(got, []uint64{0, 0}) {
		t.Errorf("Resize of a million words to 2 = %v", got)
	}
}

func TestHonestMessagesAreDelivered(t *testing.T) { // P14.4
	eachSample(7, func(_ *sampler, w api.Scenario, rounds []round) {
		isHonest := func(party int) bool { return !slices.Contains(w.Corrupt, party) }
		n := must(t, w)
		for _, r := range rounds {
			in := r.execute(n)
			for j := range in {
				for i := range w.S.N {
					var want []uint64
					if r.out != nil {
						want = r.out[i][j]
					} else {
						want = r.sent[i]
					}
					if isHonest(i+1) && !slices.Equal(in[j][i], want) {
						t.Errorf("%v: party %d sends %v, but %v is received", w, i+1, want, in[j][i])
					}
				}
			}
		}
	})
}

func TestAllMessagesAreDeliveredWithoutDeviations(t *testing.T) { // P14.4
	eachSample(8, func(_ *sampler, w api.Scenario, rounds []round) {
		honest := w
		honest.Corrupt = nil
		w.Deviations = nil
		for _, v := range []api.Scenario{w, honest} {
			n := must(t, v)
			for _, r := range rounds {
				in := r.execute(n)
				if r.out == nil && !equal(in[0], r.sent) {
					t.Errorf("%v: %v is broadcast, and %v received", v, r.sent, in[0])
				}
				for i, messages := range r.out {
					for j, message := range messages {
						if !slices.Equal(in[j][i], message) {
							t.Errorf("%v: %v is sent, and %v received", v, message, in[j][i])
						}
					}
				}
			}
		}
	})
}

// run executes the rounds on a new network and returns the network.
func run(t *testing.T, w api.Scenario, rounds []round) *Net {
	t.Helper()
	n := must(t, w)
	for _, r := range rounds {
		r.execute(n)
	}
	return n
}

func TestMessageConcernsItsReceiverOnly(t *testing.T) { // P14.4
	eachSample(9, func(s *sampler, w api.Scenario, rounds []round) {
		before := viewsOf(run(t, w, rounds))
		for number, r := range rounds {
			if r.out == nil {
				continue
			}
			from, to := 1+s.below(w.S.N), 1+s.below(w.S.N)
			isEchoed := slices.ContainsFunc(w.Deviations, func(d api.Deviation) bool {
				return d.Kind == api.DeviateEcho && d.Round == number && d.From == to && d.Of == from && slices.Contains(w.Corrupt, to)
			})
			if isEchoed {
				continue
			}
			changed := slices.Clone(rounds)
			changed[number].out = copiedMessages(r.out)
			changed[number].out[from-1][to-1] = s.message(w.S.P, 5)
			for i, view := range viewsOf(run(t, w, changed)) {
				if i+1 != to && !equalViews(view, before[i]) {
					t.Errorf("%v: a message from party %d to party %d in round %d changes View(%d)", w, from, to, number, i+1)
				}
			}
		}
	})
}

func TestEveryMessageConcernsItsReceiverOnly(t *testing.T) { // P14.4
	for _, n := range []int{4, 7, 13} {
		w := world(8191, n, []int{2}, api.Deviation{From: 2, Kind: api.DeviateSet, K: 9}, api.Deviation{From: 2, At: 1, Kind: api.DeviateEcho, K: 1, Of: 1, SrcIndex: 2})
		before := viewsOf(run(t, w, []round{{out: numbered(n, 4)}}))
		for from := 1; from <= n; from++ {
			for to := 1; to <= n; to++ {
				out := numbered(n, 4)
				out[from-1][to-1] = []uint64{50, 60, 70, 80}
				for i, view := range viewsOf(run(t, w, []round{{out: out}})) {
					// The word that party 2 echoes to all is one of party 1's.
					changes := i+1 == to && from != to || from == 1 && to == 2 && i+1 != 2
					if equalViews(view, before[i]) == changes {
						t.Errorf("%d parties: a message from party %d to party %d: View(%d) = %v", n, from, to, i+1, view)
					}
				}
			}
		}
	}
}

func TestWhatCorruptedPartiesSend(t *testing.T) { // P14.4
	eachSample(10, func(s *sampler, w api.Scenario, rounds []round) {
		isCorrupt := func(party int) bool { return slices.Contains(w.Corrupt, party) }
		before := run(t, w, rounds)
		for number, r := range rounds {
			// The rounds before it are others, and so are, in the round itself, the messages among honest parties.
			other := run(t, w, s.sampledRounds(w, number))
			changed := round{sent: r.sent, out: copiedMessages(r.out)}
			for i := range r.out {
				for j := range r.out {
					if !isCorrupt(i+1) && !isCorrupt(j+1) {
						changed.out[i][j] = s.message(w.S.P, 4)
					}
				}
			}
			changed.execute(other)
			for i := range w.S.N {
				if !equalViews(fromParties(other.View(i+1), number, w.Corrupt), fromParties(before.View(i+1), number, w.Corrupt)) {
					t.Errorf("%v: what corrupted parties send to party %d in round %d depends on more than it may", w, i+1, number)
				}
			}
		}
	})
}

// fromParties returns the events of a round whose sender is one of the parties.
func fromParties(view api.View, number int, parties []int) api.View {
	return slices.DeleteFunc(slices.Clone(view), func(e api.Event) bool {
		return e.Round != number || !slices.Contains(parties, e.From)
	})
}

func TestNetworksAreIndependent(t *testing.T) { // P14.3, P14.4
	eachSample(11, func(s *sampler, w api.Scenario, rounds []round) {
		a, b, idle := must(t, w), must(t, w), must(t, w)
		otherRounds := s.sampledRounds(w, len(rounds))
		for k, r := range rounds {
			r.execute(a)
			if k%2 == 0 {
				otherRounds[k].execute(b)
			}
		}
		for k := 1; k < len(rounds); k += 2 {
			otherRounds[k].execute(b)
		}
		for i := 1; i <= w.S.N; i++ {
			if a.Tape(i) == b.Tape(i) || a.Tape(i) == idle.Tape(i) {
				t.Errorf("%v: two networks use one tape of party %d", w, i)
			}
			checkTape(t, a, i, w.Tapes[i-1])
			checkTape(t, b, i, w.Tapes[i-1])
		}
		if want := viewsOf(run(t, w, rounds)); !slices.EqualFunc(viewsOf(a), want, equalViews) || a.Rounds() != len(rounds) {
			t.Errorf("%v: rounds of another network change views", w)
		}
		checkState(t, idle, w, 0, make([]api.View, w.S.N))
		for i, words := range w.Tapes {
			checkTape(t, idle, i+1, words)
		}
	})
}

func TestParallelNetworks(t *testing.T) { // P14.4: networks that are used at the same time share nothing; go test -race would tell
	w := world(31, 4, []int{2}, api.Deviation{Round: 3, From: 2, Kind: api.DeviateEcho, K: 2, Of: 3})
	w.Tapes = [][]uint64{{1, 2, 3}, {4}, nil, {5, 6}}
	rounds := sequences(4, 5)[40]
	want := viewsOf(run(t, w, rounds))
	for k := range 8 {
		t.Run(strconv.Itoa(k), func(t *testing.T) {
			t.Parallel()
			n := run(t, w, rounds)
			if !slices.EqualFunc(viewsOf(n), want, equalViews) {
				t.Error("views differ")
			}
			for i, words := range w.Tapes {
				checkTape(t, n, i+1, words)
			}
		})
	}
}

// withSpare returns a copy of a list that has spare capacity filled with marks, and a function that tells whether all of its memory is as it was.
func withSpare[E any](list []E, marks ...E) ([]E, func() bool) {
	whole := slices.Concat(list, marks)
	kept := slices.Clone(whole)
	return whole[:len(list)], func() bool { return reflect.DeepEqual(whole, kept) }
}

// all returns a function that tells whether every one of the given ones holds.
func all(checks []func() bool) func() bool {
	return func() bool { return !slices.ContainsFunc(checks, func(check func() bool) bool { return !check() }) }
}

// spacious returns copies of messages, all with spare capacity, and a function that tells whether all of their memory is as it was.
func spacious(messages [][]uint64) ([][]uint64, func() bool) {
	var checks []func() bool
	list := make([][]uint64, len(messages))
	for i, message := range messages {
		whole, check := withSpare(message, 77, 78, 79, 80, 81)
		list[i], checks = whole, append(checks, check)
	}
	list, check := withSpare(list, []uint64{82}, []uint64{83, 84})
	return list, all(append(checks, check))
}

// spaciousMessages does the same for the messages to all parties.
func spaciousMessages(out [][][]uint64) ([][][]uint64, func() bool) {
	var checks []func() bool
	list := make([][][]uint64, len(out))
	for i, messages := range out {
		whole, check := spacious(messages)
		list[i], checks = whole, append(checks, check)
	}
	list, check := withSpare(list, [][]uint64{{85}}, [][]uint64{{86}, {87}})
	return list, all(append(checks, check))
}

// spaciousWorld does the same for a scenario.
func spaciousWorld(w api.Scenario) (api.Scenario, func() bool) {
	var checks [3]func() bool
	w.Corrupt, checks[0] = withSpare(w.Corrupt, 1, 2, 3, 4)
	w.Deviations, checks[1] = withSpare(w.Deviations, api.Deviation{From: 1, Kind: api.DeviateDrop}, api.Deviation{From: 2, Kind: api.DeviateDrop})
	w.Tapes, checks[2] = spacious(w.Tapes)
	return w, all(checks[:])
}

// spaciousRounds does the same for rounds.
func spaciousRounds(rounds []round) ([]round, func() bool) {
	var checks []func() bool
	list := slices.Clone(rounds)
	for i, r := range rounds {
		var check func() bool
		if r.out != nil {
			list[i].out, check = spaciousMessages(r.out)
		} else {
			list[i].sent, check = spacious(r.sent)
		}
		checks = append(checks, check)
	}
	return list, all(checks)
}

// overwrite changes all messages of a list, and the list, with their spare capacity.
func overwrite(list [][]uint64) {
	list = list[:cap(list)]
	for i, message := range list {
		message = message[:cap(message)]
		for k := range message {
			message[k] = 99
		}
		list[i] = []uint64{99, 98, 97}
	}
}

// overwriteMessages changes the messages of all parties to all parties.
func overwriteMessages(list [][][]uint64) {
	list = list[:cap(list)]
	for i, messages := range list {
		overwrite(messages)
		list[i] = nil
	}
}

// overwriteView changes all events of a view, and their words.
func overwriteView(view api.View) {
	view = view[:cap(view)]
	for i, event := range view {
		overwrite([][]uint64{event.Words})
		view[i] = api.Event{Round: 99, From: 98, Words: []uint64{97}}
	}
}

// overwriteWorld changes all lists of a scenario.
func overwriteWorld(w api.Scenario) {
	for i := range w.Corrupt[:cap(w.Corrupt)] {
		w.Corrupt[:cap(w.Corrupt)][i] = 99
	}
	for i := range w.Deviations[:cap(w.Deviations)] {
		w.Deviations[:cap(w.Deviations)][i] = api.Deviation{From: 99}
	}
	overwrite(w.Tapes)
}

func TestArgumentsAreNotChanged(t *testing.T) { // P14.1, P14.2, P14.3
	eachSample(12, func(_ *sampler, w api.Scenario, rounds []round) {
		want := viewsOf(run(t, w, rounds))
		given, isSameWorld := spaciousWorld(w)
		givenRounds, areSameRounds := spaciousRounds(rounds)
		n := must(t, given)
		var results [][][][]uint64
		for _, r := range givenRounds {
			results = append(results, r.execute(n))
		}
		for i, words := range w.Tapes {
			checkTape(t, n, i+1, words)
		}
		views := viewsOf(n)
		if !slices.EqualFunc(views, want, equalViews) {
			t.Errorf("%v: spare capacity changes the views", w)
		}
		if !isSameWorld() || !areSameRounds() {
			t.Errorf("%v: an argument or its spare capacity is changed", w)
		}
		for _, in := range results {
			overwriteMessages(in)
		}
		for _, view := range views {
			overwriteView(view)
		}
		overwriteWorld(n.Scenario())
		if !isSameWorld() || !areSameRounds() {
			t.Errorf("%v: a result shares memory with an argument", w)
		}
		checkState(t, n, w, len(rounds), want)
	})
}

func TestArgumentsAreNotKept(t *testing.T) { // P14.1, P14.2, P14.3: what the caller does with its arguments afterwards has no influence
	eachSample(13, func(_ *sampler, w api.Scenario, rounds []round) {
		given := copiedWorld(w)
		n := must(t, given)
		overwriteWorld(given)
		views := make([]api.View, w.S.N)
		for number, r := range rounds {
			own := round{out: copiedMessages(r.out), sent: copied(r.sent)}
			in := own.execute(n)
			overwriteMessages(own.out)
			overwrite(own.sent)
			want := received(w, number, r)
			if !equalMessages(in, want) {
				t.Errorf("%v: the result of round %d changes with an argument: %v, want %v", w, number, in, want)
			}
			for i := range views {
				views[i] = append(views[i], events(want, number, i+1)...)
			}
			checkState(t, n, w, number+1, views)
		}
		for i, words := range w.Tapes {
			checkTape(t, n, i+1, words)
		}
	})
}

func TestResultsAreNotKept(t *testing.T) { // P14.1, P14.2, P14.3: what the caller does with results has no influence, and later rounds leave them alone
	eachSample(14, func(_ *sampler, w api.Scenario, rounds []round) {
		n := must(t, w)
		views := make([]api.View, w.S.N)
		for number, r := range rounds {
			want := received(w, number, r)
			for i := range views {
				views[i] = append(views[i], events(want, number, i+1)...)
			}
			kept := viewsOf(n)
			was := make([]api.View, len(kept))
			for i, view := range kept {
				was[i] = copiedView(view)
			}
			in := r.execute(n)
			if !slices.EqualFunc(kept, was, equalViews) {
				t.Errorf("%v: round %d changes views that were returned before", w, number)
			}
			for i := range kept {
				kept[i] = append(kept[i], api.Event{Round: 55, From: 1, Words: []uint64{1}})
				overwriteView(kept[i])
				overwriteView(n.View(i + 1))
			}
			overwriteMessages(in)
			overwriteWorld(n.Scenario())
			checkState(t, n, w, number+1, views)
		}
	})
}

func TestTakenWordsAreNotKept(t *testing.T) { // P14.3
	w := world(31, 4, nil)
	w.Tapes = [][]uint64{{1, 2, 3}, {1, 2, 3}, {1, 2, 3}, {1, 2, 3}}
	given := copiedWorld(w)
	n := must(t, given)
	for i := range 4 {
		words, _ := n.Tape(i + 1).Take(2)
		overwrite([][]uint64{words, append(words, 30)})
		if rest, _ := n.Tape(i + 1).Take(1); !slices.Equal(rest, []uint64{3}) {
			t.Errorf("the last word of party %d is %v", i+1, rest)
		}
	}
	if !equalWorlds(n.Scenario(), w) || !equalWorlds(given, w) {
		t.Errorf("writing into taken words changes the scenario to %v", n.Scenario())
	}
}

func TestNoTwoListsShareMemory(t *testing.T) { // P14.1, P14.2, P14.3
	eachSample(15, func(_ *sampler, w api.Scenario, rounds []round) {
		n := must(t, w)
		var lists [][]uint64
		for _, r := range rounds {
			for _, received := range r.execute(n) {
				lists = append(lists, received...)
			}
		}
		for _, views := range [][]api.View{viewsOf(n), viewsOf(n)} {
			for _, view := range views {
				for _, event := range view {
					lists = append(lists, event.Words)
				}
			}
		}
		lists = slices.Concat(lists, n.Scenario().Tapes, n.Scenario().Tapes)
		mark := uint64(0)
		eachWord(lists, func(word *uint64) {
			mark++
			*word = mark
		})
		mark = 0
		eachWord(lists, func(word *uint64) {
			mark++
			if *word != mark {
				t.Errorf("%v: two lists of results share memory", w)
			}
		})
	})
}

// eachWord calls use with every word of the lists and of their spare capacity.
func eachWord(lists [][]uint64, use func(word *uint64)) {
	for _, list := range lists {
		list = list[:cap(list)]
		for i := range list {
			use(&list[i])
		}
	}
}

func TestMessagesThatShareMemory(t *testing.T) { // P14.2, P14.3
	words := []uint64{1, 2, 3, 4, 5, 6, 7, 8}
	out := silence(4)
	var sent [][]uint64
	for i := range out {
		for j := range out {
			out[i][j] = words[2*i : 2*i+2]
		}
		sent = append(sent, words[:2+2*i])
	}
	w := world(31, 4, []int{2}, api.Deviation{Round: 0, From: 2, To: 3, Kind: api.DeviateSet, K: 20}, api.Deviation{Round: 1, From: 2, Kind: api.DeviateAdd, K: 9})
	check(t, w, []round{{out: out}, {sent: sent}, {out: out}})
	if !slices.Equal(words, []uint64{1, 2, 3, 4, 5, 6, 7, 8}) {
		t.Errorf("the words that are sent become %v", words)
	}
}

func TestScenarioIsReturnedAsGiven(t *testing.T) { // P14.1
	s := &sampler{16}
	for _, p := range primes {
		for n := api.MinParties; n <= api.MaxParties; n++ {
			w := s.scenario(p, n, 3)
			w.S.T = max(1, len(w.Corrupt)) // not only the greatest threshold
			got := must(t, w).Scenario()
			if got.S != w.S || !slices.Equal(got.Corrupt, w.Corrupt) || !slices.Equal(got.Deviations, w.Deviations) || !equal(got.Tapes, w.Tapes) {
				t.Errorf("Scenario() = %v, want %v", got, w)
			}
		}
	}
}

func TestUnspecifiedCallsEnd(t *testing.T) { // the results are unspecified, but LANGUAGE.md forbids panics and endless loops
	none, _ := New(api.Scenario{})
	parties := []int{0, -1, 1, 4, 5, 14, math.MaxInt, math.MinInt}
	outs := [][][][]uint64{nil, {}, silence(3), silence(5), silence(4)[:3], {nil, nil, nil, nil}, {make([][]uint64, 5), nil, nil, nil}, numbered(13, 0)}
	w := world(31, 4, []int{2}, api.Deviation{From: 2, Kind: api.DeviateEcho, K: math.MaxUint64, Of: 3}, api.Deviation{From: 2, At: 1, Kind: api.DeviateAdd, K: math.MaxUint64})
	for _, n := range []*Net{none, {}, must(t, w)} {
		for _, out := range outs {
			n.Send(out)
		}
		for _, sent := range [][][]uint64{nil, {}, make([][]uint64, 3), make([][]uint64, 5), numberedBroadcasts(13, 0)} {
			n.Broadcast(sent)
		}
		if n.Rounds() != 0 {
			t.Errorf("messages that are not those of N parties are %d rounds", n.Rounds())
		}
		tooGreat := [][]uint64{{31}, {math.MaxUint64, 31}, {math.MaxUint64 - 1}, nil}
		n.Send([][][]uint64{tooGreat, tooGreat, tooGreat, tooGreat})
		n.Broadcast(tooGreat)
		n.Scenario()
		n.Rounds()
		for _, party := range parties {
			n.View(party)
			words, _ := n.Tape(party).Take(0)
			if len(words) != 0 {
				t.Errorf("no words of Tape(%d) are %v", party, words)
			}
		}
	}
	for _, n := range []int{-1, -2, math.MinInt, math.MaxInt, math.MaxInt / 8, 1 << 48, 1 << 60} {
		Resize([]uint64{1, 2}, n)
		Resize(nil, n)
	}
}
