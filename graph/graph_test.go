package graph

import (
	"math"
	"math/bits"
	"math/rand"
	"reflect"
	"slices"
	"strings"
	"testing"

	"handsel/api"
	"handsel/spec"
)

type step = [2]int

// swap is of so many parties, with those leaders, and gives along those steps.
func swap(parties int, leaders []int, steps ...step) api.Spec {
	s := api.Spec{ID: "swap", Leaders: slices.Clone(leaders), Start: 3, Delta: 7}
	for range leaders {
		s.Locks = append(s.Locks, strings.Repeat("l", api.Hash))
	}
	for i := range parties {
		p := api.Party{Account: string([]byte{'p', byte('0' + i)})}
		for range leaders {
			p.Keys = append(p.Keys, strings.Repeat("k", api.Short))
		}
		s.Parties = append(s.Parties, p)
	}
	for i, a := range steps {
		s.Arcs = append(s.Arcs, api.Arc{From: a[0], To: a[1], Ledger: i % api.MaxLedgers, Asset: "gold", Amount: i + 1})
	}
	return s
}

func lead(leaders ...int) []int { return leaders }

// ring goes from each party to the next, and from the last to the first.
func ring(parties ...int) []step {
	var steps []step
	for i, v := range parties {
		steps = append(steps, step{v, parties[(i+1)%len(parties)]})
	}
	return steps
}

func joined(lists ...[]step) []step { return slices.Concat(lists...) }

func backwards(steps []step) []step {
	turned := slices.Clone(steps)
	slices.Reverse(turned)
	return turned
}

// oneTurned is the steps with the one at that place turned round.
func oneTurned(steps []step, at int) []step {
	turned := slices.Clone(steps)
	turned[at] = step{steps[at][1], steps[at][0]}
	return turned
}

// leadsTo is, of each party, the parties that arcs lead to, as bits: it grows by every party on the way in turn.
func leadsTo(s api.Spec) []uint {
	to := make([]uint, len(s.Parties))
	for _, a := range s.Arcs {
		to[a.From] |= 1 << a.To
	}
	for way := range to {
		for v := range to {
			if to[v]>>way&1 == 1 {
				to[v] |= to[way]
			}
		}
	}
	return to
}

func strongByBits(s api.Spec) bool {
	for v, to := range leadsTo(s) {
		if to|1<<v != 1<<len(s.Parties)-1 {
			return false
		}
	}
	return true
}

// feedbackByPeeling takes away the leaders, then again and again whoever no arc enters any more: nobody stays.
func feedbackByPeeling(s api.Spec) bool {
	left := uint(1)<<len(s.Parties) - 1
	for _, leader := range s.Leaders {
		left &^= 1 << leader
	}
	for range s.Parties {
		entered := uint(0)
		for _, a := range s.Arcs {
			if left>>a.From&1 == 1 {
				entered |= 1 << a.To
			}
		}
		left &= entered
	}
	return left == 0
}

func pathByTable(s api.Spec, l []int) bool {
	var table [api.MaxParties][api.MaxParties]int
	for _, a := range s.Arcs {
		table[a.From][a.To]++
	}
	met := map[int]int{}
	for _, v := range l {
		met[v]++
		if v < 0 || v >= len(s.Parties) || met[v] > 1 {
			return false
		}
	}
	for i := 1; i < len(l); i++ {
		if table[l[i-1]][l[i]] == 0 {
			return false
		}
	}
	return len(l) > 0
}

// leaderSets are all sets of leaders that there may be of so many parties.
func leaderSets(parties int) [][]int {
	var sets [][]int
	for set := uint(1); set < 1<<parties; set++ {
		if bits.OnesCount(set) > api.MaxLeaders {
			continue
		}
		var leaders []int
		for v := range parties {
			if set>>v&1 == 1 {
				leaders = append(leaders, v)
			}
		}
		sets = append(sets, leaders)
	}
	return sets
}

func allSteps(parties int) []step {
	var steps []step
	for from := range parties {
		for to := range parties {
			if from != to {
				steps = append(steps, step{from, to})
			}
		}
	}
	return steps
}

// everySwap calls with each swap of two to four parties, its arcs in a random order, and with many of five and six.
func everySwap(use func(api.Spec)) {
	random := rand.New(rand.NewSource(5))
	for parties := 2; parties <= 4; parties++ {
		steps, sets := allSteps(parties), leaderSets(parties)
		for chosen := 1; chosen < 1<<len(steps); chosen++ {
			var some []step
			for i, a := range steps {
				if chosen>>i&1 == 1 {
					some = append(some, a)
				}
			}
			random.Shuffle(len(some), func(i, j int) { some[i], some[j] = some[j], some[i] })
			for _, leaders := range sets {
				use(swap(parties, leaders, some...))
			}
		}
	}
	for range 30000 {
		use(randomSwap(random, 5+random.Intn(2)))
	}
}

func randomSwap(random *rand.Rand, parties int) api.Spec {
	steps, sets := allSteps(parties), leaderSets(parties)
	random.Shuffle(len(steps), func(i, j int) { steps[i], steps[j] = steps[j], steps[i] })
	steps = steps[:1+random.Intn(min(len(steps), api.MaxArcs))]
	if random.Intn(2) == 0 { // Few are strong by chance: half of them have a ring of all.
		steps = joined(ring(random.Perm(parties)...), steps)
		seen := map[step]int{}
		steps = slices.DeleteFunc(steps, func(a step) bool { seen[a]++; return seen[a] > 1 })
		steps = steps[:min(len(steps), api.MaxArcs)]
		random.Shuffle(len(steps), func(i, j int) { steps[i], steps[j] = steps[j], steps[i] })
	}
	leaders := slices.Clone(sets[random.Intn(len(sets))])
	slices.Reverse(leaders)
	return swap(parties, leaders, steps...)
}

type shape struct {
	name             string
	s                api.Spec
	strong, feedback bool
}

func rings() []shape {
	three, six := ring(0, 1, 2), ring(0, 1, 2, 3, 4, 5)
	return []shape{
		{"two that give each other", swap(2, lead(0), step{0, 1}, step{1, 0}), true, true},
		{"the other one leads", swap(2, lead(1), step{0, 1}, step{1, 0}), true, true},
		{"one gives", swap(2, lead(0), step{0, 1}), false, true},
		{"the other one gives", swap(2, lead(0), step{1, 0}), false, true},
		{"a ring of three", swap(3, lead(0), three...), true, true},
		{"a ring of three, the last leads", swap(3, lead(2), three...), true, true},
		{"a ring of three, all lead", swap(3, lead(2, 0, 1), three...), true, true},
		{"a ring of three, backwards", swap(3, lead(1), backwards(three)...), true, true},
		{"a ring of three, its first arc turned", swap(3, lead(0), oneTurned(three, 0)...), false, true},
		{"a ring of three, its second arc turned", swap(3, lead(0), oneTurned(three, 1)...), false, true},
		{"a ring of three, its last arc turned", swap(3, lead(0), oneTurned(three, 2)...), false, true},
		{"a ring of three, an arc missing", swap(3, lead(0), three[:2]...), false, true},
		{"a ring of six", swap(6, lead(3), six...), true, true},
		{"a ring of six, backwards", swap(6, lead(3), backwards(six)...), true, true},
		{"a ring of six, an arc turned", swap(6, lead(3), oneTurned(six, 4)...), false, true},
		{"a ring, and the first party with no arc", swap(4, lead(1), ring(1, 2, 3)...), false, true},
		{"a ring, and the last party with no arc", swap(4, lead(1), ring(0, 1, 2)...), false, true},
		{"a ring, and a party that only gives", swap(4, lead(1), append(ring(0, 1, 2), step{3, 0})...), false, true},
		{"a ring, and a party that only gets", swap(4, lead(1), append(ring(0, 1, 2), step{0, 3})...), false, true},
		{"a ring of others, nobody of it leads", swap(4, lead(3), ring(0, 1, 2)...), false, false},
	}
}

func twoRings() []shape {
	apart := joined(ring(0, 1, 2), ring(3, 4, 5))
	there, back := step{2, 3}, step{5, 1}
	share := joined(ring(0, 1, 2), ring(2, 3, 4))
	return []shape{
		{"two rings, nothing between", swap(6, lead(0, 3), apart...), false, true},
		{"two rings, an arc there", swap(6, lead(0, 3), append(apart[:6:6], there)...), false, true},
		{"two rings, an arc back", swap(6, lead(0, 3), append(apart[:6:6], back)...), false, true},
		{"two rings, an arc each way", swap(6, lead(0, 3), append(apart[:6:6], there, back)...), true, true},
		{"two rings, an arc each way, none leads the second", swap(6, lead(0), append(apart[:6:6], there, back)...), true, false},
		{"two rings, an arc each way, none leads the first", swap(6, lead(3), append(apart[:6:6], there, back)...), true, false},
		{"two rings, an arc each way, others lead them", swap(6, lead(1, 5), append(apart[:6:6], there, back)...), true, true},
		{"two rings, an arc each way, a ring of both stays", swap(6, lead(0, 4), append(apart[:6:6], there, step{3, 2})...), true, false},
		{"two rings, the second without one that leads it", swap(6, lead(0, 1, 2), apart...), false, false},
		{"two rings that share a party, it leads", swap(5, lead(2), share...), true, true},
		{"two rings that share a party, backwards, it leads", swap(5, lead(2), backwards(share)...), true, true},
		{"two rings that share a party, one of the first leads", swap(5, lead(0), share...), true, false},
		{"two rings that share a party, one of the second leads", swap(5, lead(4), share...), true, false},
		{"two rings that share a party, one of each leads", swap(5, lead(4, 1), share...), true, true},
	}
}

func manyArcs() []shape {
	all := allSteps(4)
	two := append(ring(0, 1, 2), step{1, 0})
	three := joined(ring(0, 1), ring(2, 3), ring(4, 5), ring(0, 2, 4))
	return []shape{
		{"all of three give all, one leads", swap(3, lead(1), allSteps(3)...), true, false},
		{"all of three give all, two lead", swap(3, lead(1, 2), allSteps(3)...), true, true},
		{"all of four give all, two lead", swap(4, lead(0, 3), all...), true, false},
		{"all of four give all, three lead", swap(4, lead(0, 3, 1), all...), true, true},
		{"all but one way back", swap(4, lead(0, 1, 2), slices.DeleteFunc(slices.Clone(all), func(a step) bool { return a[1] == 0 })...), false, true},
		{"a ring with an arc back, its giver leads", swap(3, lead(1), two...), true, true},
		{"a ring with an arc back, its getter leads", swap(3, lead(0), two...), true, true},
		{"a ring with an arc back, the third leads", swap(3, lead(2), two...), true, false},
		{"three pairs in a ring, three lead", swap(6, lead(0, 2, 4), three...), true, true},
		{"three pairs in a ring, three lead, the ring stays", swap(6, lead(1, 3, 5), three...), true, false},
		{"three pairs in a ring, two lead", swap(6, lead(0, 2), three...), true, false},
		{"a diamond goes nowhere round", swap(4, lead(0), step{0, 1}, step{0, 2}, step{1, 3}, step{2, 3}), false, true},
		{"a diamond without its leader", swap(5, lead(4), step{0, 1}, step{0, 2}, step{1, 3}, step{2, 3}), false, true},
		{"a walk into a ring without leaders", swap(4, lead(0), append(ring(1, 2, 3), step{0, 1})...), false, false},
		{"a walk out of a leader's ring", swap(4, lead(0), append(ring(0, 1), step{1, 2}, step{2, 3})...), false, true},
	}
}

func shapes() []shape { return slices.Concat(rings(), twoRings(), manyArcs()) }

func TestP51StrongFeedbackAndValidOfShapes(t *testing.T) {
	for _, x := range shapes() {
		if !spec.Check(x.s) {
			t.Fatalf("%s: Check refuses it", x.name)
		}
		if got := Strong(x.s); got != x.strong {
			t.Errorf("%s: Strong %v", x.name, got)
		}
		if got := Feedback(x.s); got != x.feedback {
			t.Errorf("%s: Feedback %v", x.name, got)
		}
		if got := Valid(x.s); got != (x.strong && x.feedback) {
			t.Errorf("%s: Valid %v", x.name, got)
		}
	}
}

// Three rings that share nobody need three leaders, one of each.
func TestP51FeedbackWithOneLeaderTooFew(t *testing.T) {
	pairs := joined(ring(0, 1), ring(2, 3), ring(4, 5))
	for _, enough := range [][]int{{0, 2, 4}, {1, 3, 5}, {5, 0, 3}} {
		if !Feedback(swap(6, enough, pairs...)) {
			t.Errorf("%v are enough", enough)
		}
		for i := range enough {
			few := slices.Delete(slices.Clone(enough), i, i+1)
			if Feedback(swap(6, few, pairs...)) {
				t.Errorf("%v are too few", few)
			}
		}
	}
}

func TestP51StrongFeedbackAndValidOfEverySwap(t *testing.T) {
	count := map[[2]bool]int{}
	everySwap(func(s api.Spec) {
		strong, feedback := strongByBits(s), feedbackByPeeling(s)
		count[[2]bool{strong, feedback}]++
		if Strong(s) != strong || Feedback(s) != feedback || Valid(s) != (strong && feedback) {
			t.Fatalf("%v, leaders %v: Strong %v, Feedback %v, Valid %v, want %v, %v",
				s.Arcs, s.Leaders, Strong(s), Feedback(s), Valid(s), strong, feedback)
		}
	})
	for _, kind := range [][2]bool{{false, false}, {false, true}, {true, false}, {true, true}} {
		if count[kind] < 1000 {
			t.Errorf("only %d swaps of the kind %v", count[kind], kind)
		}
	}
}

// Each of Valid's three conditions is broken by itself.
func TestP51ValidNeedsEach(t *testing.T) {
	whole := swap(4, lead(0, 2), joined(ring(0, 1), ring(2, 3), []step{{1, 2}, {3, 0}})...)
	if !spec.Check(whole) || !Strong(whole) || !Feedback(whole) || !Valid(whole) {
		t.Fatal("the whole one is not valid")
	}
	notStrong := swap(4, lead(0, 2), joined(ring(0, 1), ring(2, 3), []step{{1, 2}})...)
	if !spec.Check(notStrong) || Strong(notStrong) || !Feedback(notStrong) || Valid(notStrong) {
		t.Error("an arc too few")
	}
	noFeedback := swap(4, lead(0), joined(ring(0, 1), ring(2, 3), []step{{1, 2}, {3, 0}})...)
	if !spec.Check(noFeedback) || !Strong(noFeedback) || Feedback(noFeedback) || Valid(noFeedback) {
		t.Error("a leader too few")
	}
	for _, s := range refused() {
		if Valid(s) {
			t.Errorf("valid, though Check refuses it: %v", s)
		}
	}
}

// refused are swaps that Check refuses; but for the refused thing most are strong, and go round by a leader alone.
func refused() []api.Spec {
	var list []api.Spec
	change := func(apply func(s *api.Spec)) {
		s := swap(3, lead(0, 1), append(ring(0, 1, 2), step{1, 0})...)
		apply(&s)
		list = append(list, s)
	}
	change(func(s *api.Spec) { *s = api.Spec{} })
	change(func(s *api.Spec) { s.ID = "" })
	change(func(s *api.Spec) { s.Delta = 0 })
	change(func(s *api.Spec) { s.Start = -1 })
	change(func(s *api.Spec) { s.Locks = s.Locks[:1] })
	change(func(s *api.Spec) { s.Locks[1] = "" })
	change(func(s *api.Spec) { s.Parties[2].Account = s.Parties[0].Account })
	change(func(s *api.Spec) { s.Parties[2].Keys = nil })
	change(func(s *api.Spec) { s.Arcs[0].Amount = 0 })
	change(func(s *api.Spec) { s.Arcs[0].Ledger = api.MaxLedgers })
	change(func(s *api.Spec) { s.Arcs[0].Asset = "" })
	change(func(s *api.Spec) { s.Arcs = append(s.Arcs, s.Arcs[0]) })
	change(func(s *api.Spec) { s.Arcs = nil })
	change(func(s *api.Spec) { s.Parties = nil })
	change(func(s *api.Spec) { s.Leaders = nil })
	change(func(s *api.Spec) { s.Leaders[1] = s.Leaders[0] })
	change(func(s *api.Spec) { *s = swap(1, lead(0)) })
	change(func(s *api.Spec) { *s = swap(1, lead(0), step{0, 0}) })
	change(func(s *api.Spec) { *s = swap(7, lead(0), ring(0, 1, 2, 3, 4, 5, 6)...) })
	change(func(s *api.Spec) { *s = swap(4, lead(0, 1, 2, 3), allSteps(4)...) })
	change(func(s *api.Spec) { *s = swap(5, lead(0, 1, 2), allSteps(5)[:13]...) })
	for _, far := range []int{-1, 3, math.MinInt, math.MaxInt} {
		change(func(s *api.Spec) { s.Arcs[1].From = far })
		change(func(s *api.Spec) { s.Arcs[1].To = far })
		change(func(s *api.Spec) { s.Leaders[1] = far })
		change(func(s *api.Spec) { s.Arcs = append(s.Arcs, api.Arc{From: far, To: far, Asset: "gold", Amount: 1}) })
	}
	change(func(s *api.Spec) { s.Arcs = make([]api.Arc, 1<<20) })
	change(func(s *api.Spec) { s.Parties = make([]api.Party, 1<<20) })
	change(func(s *api.Spec) { s.Leaders = make([]int, 1<<20) })
	return list
}

func TestP51RefusedSwapsHaveNothing(t *testing.T) {
	for i, s := range refused() {
		if spec.Check(s) {
			t.Fatalf("%d: Check takes it", i)
		}
		if Strong(s) || Feedback(s) || Valid(s) {
			t.Errorf("%d: Strong %v, Feedback %v, Valid %v", i, Strong(s), Feedback(s), Valid(s))
		}
		for _, l := range [][]int{nil, {0}, {1}, {0, 1}, {0, 1, 2}, {-1}, {3}, {math.MaxInt}} {
			if Path(s, l) {
				t.Errorf("%d: Path of %v", i, l)
			}
		}
		for _, v := range []int{0, 1, 2, 3, -1, math.MinInt, math.MaxInt} {
			if len(Enter(s, v)) != 0 || len(Leave(s, v)) != 0 {
				t.Errorf("%d: of %d enter %v, leave %v", i, v, Enter(s, v), Leave(s, v))
			}
		}
	}
}

func TestP51PathOfARing(t *testing.T) {
	s := swap(4, lead(0), append(ring(0, 1, 2, 3), step{1, 0}, step{1, 3})...)
	yes := [][]int{
		{0}, {1}, {2}, {3}, {0, 1}, {1, 0}, {1, 3}, {3, 0}, {0, 1, 2}, {0, 1, 3},
		{0, 1, 2, 3}, {1, 2, 3, 0}, {2, 3, 0, 1}, {3, 0, 1, 2}, {1, 3, 0},
	}
	for _, l := range yes {
		if !Path(s, l) {
			t.Errorf("Path refuses %v", l)
		}
	}
	no := [][]int{
		nil, {}, {-1}, {4}, {math.MinInt}, {math.MaxInt}, {0, 4}, {0, -1}, {4, 0}, {-1, 0}, {0, 1, 4}, {0, -1, 1},
		{0, 0}, {0, 1, 0}, {1, 0, 1}, {0, 1, 2, 3, 0}, {1, 3, 0, 1}, {0, 1, 1}, {0, 1, 2, 3, 0, 1, 2, 3},
		{2, 1}, {0, 3}, {3, 1}, {0, 1, 2, 1}, {0, 2}, {1, 0, 3}, {0, 1, 3, 2}, {0, 2, 3},
	}
	for _, l := range no {
		if Path(s, l) {
			t.Errorf("Path takes %v", l)
		}
	}
}

// Path asks neither for Strong nor for Feedback.
func TestP51PathOfAnySwap(t *testing.T) {
	for _, s := range []api.Spec{
		swap(3, lead(2), step{0, 1}),
		swap(3, lead(2), step{0, 1}, step{1, 0}),
	} {
		if !Path(s, []int{0, 1}) || !Path(s, []int{2}) || Path(s, []int{1, 2}) {
			t.Errorf("%v", s.Arcs)
		}
	}
}

func TestP51PathOfEveryList(t *testing.T) {
	random := rand.New(rand.NewSource(51))
	found := 0
	for range 60 {
		s := randomSwap(random, 2+random.Intn(5))
		n := len(s.Parties)
		everyList(n, 4, func(l []int) {
			want := pathByTable(s, l)
			if Path(s, l) != want {
				t.Fatalf("%v: Path of %v is %v", s.Arcs, l, !want)
			}
			if want && len(l) > 2 {
				found++
			}
		})
		for range 200 {
			if l := random.Perm(n); Path(s, l) != pathByTable(s, l) {
				t.Fatalf("%v: Path of %v", s.Arcs, l)
			}
		}
	}
	if found < 500 {
		t.Errorf("only %d paths of three parties and more", found)
	}
}

// everyList calls with each list of at most so many numbers from -1 to n.
func everyList(n, most int, use func([]int)) {
	lists := [][]int{nil}
	for size := 0; size <= most; size++ {
		var longer [][]int
		for _, l := range lists {
			use(l)
			for v := -1; v <= n; v++ {
				longer = append(longer, append(slices.Clone(l), v))
			}
		}
		lists = longer
	}
}

func TestP51PathEndsAtLongLists(t *testing.T) {
	s := swap(3, lead(0), ring(0, 1, 2)...)
	long := make([]int, 1<<22)
	if Path(s, long) {
		t.Error("a long list of one party")
	}
	for i := range long {
		long[i] = i % 3
	}
	if Path(s, long) {
		t.Error("a long way round")
	}
}

func TestP51EnterAndLeave(t *testing.T) {
	s := swap(6, lead(1), step{3, 0}, step{0, 1}, step{4, 3}, step{1, 0}, step{0, 3}, step{4, 0}, step{3, 1})
	want := []struct {
		v            int
		enter, leave []int
	}{
		{0, []int{0, 3, 5}, []int{1, 4}},
		{1, []int{1, 6}, []int{3}},
		{2, nil, nil},
		{3, []int{2, 4}, []int{0, 6}},
		{4, nil, []int{2, 5}},
		{5, nil, nil},
		{6, nil, nil},
		{-1, nil, nil},
		{math.MinInt, nil, nil},
		{math.MaxInt, nil, nil},
	}
	for _, x := range want {
		if got := Enter(s, x.v); !slices.Equal(got, x.enter) {
			t.Errorf("Enter of %d: %v, want %v", x.v, got, x.enter)
		}
		if got := Leave(s, x.v); !slices.Equal(got, x.leave) {
			t.Errorf("Leave of %d: %v, want %v", x.v, got, x.leave)
		}
	}
}

// Every arc enters its To and leaves its From, once, at its place, and nothing else does.
func TestP51EnterAndLeaveOfEverySwap(t *testing.T) {
	random := rand.New(rand.NewSource(15))
	for range 2000 {
		s := randomSwap(random, 2+random.Intn(5))
		entered, left := make([]int, len(s.Arcs)), make([]int, len(s.Arcs))
		for v := -2; v < len(s.Parties)+2; v++ {
			enter, leave := Enter(s, v), Leave(s, v)
			if !rising(enter) || !rising(leave) {
				t.Fatalf("%v: of %d enter %v, leave %v", s.Arcs, v, enter, leave)
			}
			for _, a := range enter {
				entered[a]++
				if s.Arcs[a].To != v {
					t.Fatalf("%v: arc %d does not enter %d", s.Arcs, a, v)
				}
			}
			for _, a := range leave {
				left[a]++
				if s.Arcs[a].From != v {
					t.Fatalf("%v: arc %d does not leave %d", s.Arcs, a, v)
				}
			}
		}
		for i := range s.Arcs {
			if entered[i] != 1 || left[i] != 1 {
				t.Fatalf("%v: arc %d enters %d, leaves %d times", s.Arcs, i, entered[i], left[i])
			}
		}
	}
}

func rising(l []int) bool {
	for i := 1; i < len(l); i++ {
		if l[i-1] >= l[i] {
			return false
		}
	}
	return true
}

func TestP52EachPartyOfAValidSwapGivesAndGets(t *testing.T) {
	valid := 0
	everySwap(func(s api.Spec) {
		if !Valid(s) {
			return
		}
		valid++
		for v := range s.Parties {
			if len(Enter(s, v)) == 0 || len(Leave(s, v)) == 0 {
				t.Fatalf("%v: of %d enter %v, leave %v", s.Arcs, v, Enter(s, v), Leave(s, v))
			}
		}
	})
	if valid < 1000 {
		t.Errorf("only %d valid swaps", valid)
	}
}

// What is handed in stays as it is, the room behind its lists too, and what is answered is nobody else's.
func TestR3NothingIsChangedOrShared(t *testing.T) {
	s := swap(4, lead(0, 2), joined(ring(0, 1), ring(2, 3), []step{{1, 2}, {3, 0}})...)
	s.Arcs = append(s.Arcs, api.Arc{From: 9, To: 9})[:6]
	s.Leaders = append(s.Leaders, 9)[:2]
	l := append([]int{0, 1, 2}, 9)[:3]
	was := swap(4, lead(0, 2), joined(ring(0, 1), ring(2, 3), []step{{1, 2}, {3, 0}})...)
	enter, leave := Enter(s, 0), Leave(s, 1)
	enter[0], leave[0] = 77, 77
	again := Enter(s, 0)
	if !Strong(s) || !Feedback(s) || !Valid(s) || !Path(s, l) {
		t.Error("the swap is not valid")
	}
	if !slices.Equal(again, []int{1, 5}) || !slices.Equal(Enter(s, 0), again) || !slices.Equal(Leave(s, 1), []int{1, 4}) {
		t.Errorf("enter %v, leave %v", Enter(s, 0), Leave(s, 1))
	}
	if !reflect.DeepEqual(s, was) || !slices.Equal(l, []int{0, 1, 2}) {
		t.Error("what was handed in is changed")
	}
	if s.Arcs[:7][6] != (api.Arc{From: 9, To: 9}) || s.Leaders[:3][2] != 9 || l[:4][3] != 9 {
		t.Error("the room behind a list is changed")
	}
}
