package when

import (
	"math"
	"math/big"
	"math/rand"
	"reflect"
	"slices"
	"strings"
	"testing"

	"handsel/api"
	"handsel/spec"
)

// swap is a ring of so many parties that the first one leads.
func swap(parties, start, delta int) api.Spec {
	s := api.Spec{ID: "swap", Leaders: []int{0}, Locks: digests(1, api.Hash), Start: start, Delta: delta}
	for i := range parties {
		s.Parties = append(s.Parties, api.Party{Account: string([]byte{'p', byte('0' + i)}), Keys: digests(1, api.Short)})
		s.Arcs = append(s.Arcs, api.Arc{From: i, To: (i + 1) % parties, Asset: "gold", Amount: 1})
	}
	return s
}

func digests(count, size int) []string {
	return slices.Repeat([]string{strings.Repeat("d", size)}, count)
}

// led is a swap with so many leaders, the last party the first of them.
func led(s api.Spec, leaders int) api.Spec {
	s.Leaders, s.Locks = nil, digests(leaders, api.Hash)
	for i := range leaders {
		s.Leaders = append(s.Leaders, (len(s.Parties)-1+i)%len(s.Parties))
	}
	s.Parties = slices.Clone(s.Parties)
	for i := range s.Parties {
		s.Parties[i].Keys = digests(leaders, api.Short)
	}
	return s
}

// edges are swaps of each number of parties, at the ends of Start and of Delta and between them.
func edges() []api.Spec {
	var list []api.Spec
	for n := 2; n <= api.MaxParties; n++ {
		for _, start := range []int{0, 1, 10, 12345, api.MaxTime - 1, api.MaxTime} {
			for _, delta := range []int{1, 2, 5, 6, 999, api.MaxDelta - 1, api.MaxDelta} {
				list = append(list, swap(n, start, delta))
			}
		}
	}
	return list
}

// anySwaps are many swaps whose numbers are drawn.
func anySwaps() []api.Spec {
	random := rand.New(rand.NewSource(61))
	var list []api.Spec
	for range 500 {
		s := swap(2+random.Intn(api.MaxParties-1), random.Intn(api.MaxTime+1), 1+random.Intn(api.MaxDelta))
		list = append(list, led(s, 1+random.Intn(min(len(s.Parties), api.MaxLeaders))))
	}
	return list
}

func allSwaps() []api.Spec { return append(edges(), anySwaps()...) }

// behind is the beginning and so many times Delta, by numbers that never go round.
func behind(s api.Spec, steps int) *big.Int {
	way := new(big.Int).Mul(big.NewInt(int64(steps)), big.NewInt(int64(s.Delta)))
	return way.Add(way, big.NewInt(int64(s.Start)))
}

func is(got int, want *big.Int) bool { return big.NewInt(int64(got)).Cmp(want) == 0 }

func mustTake(t *testing.T, s api.Spec) {
	t.Helper()
	if !spec.Check(s) {
		t.Fatalf("Check refuses %v", s)
	}
}

func TestP61ExampleOfTheDocument(t *testing.T) {
	s := swap(3, 10, 5)
	mustTake(t, s)
	for i, want := range []int{25, 30, 35} {
		if got := Deadline(s, i+1); got != want {
			t.Errorf("Deadline of %d: %d, want %d", i+1, got, want)
		}
	}
	if got := Table(s); !slices.Equal(got, []int{25, 30, 35}) {
		t.Errorf("Table %v", got)
	}
	if got := Last(s); got != 35 {
		t.Errorf("Last %d", got)
	}
	if got := End(s); got != 40 {
		t.Errorf("End %d", got)
	}
}

func TestP61WrittenOut(t *testing.T) {
	for _, x := range []struct {
		n, start, delta int
		table           []int
		end             int
	}{
		{2, 0, 1, []int{2, 3}, 4},
		{2, 7, 10, []int{27, 37}, 47},
		{3, 0, 1, []int{3, 4, 5}, 6},
		{4, 100, 6, []int{124, 130, 136, 142}, 148},
		{5, 1, 20, []int{101, 121, 141, 161, 181}, 201},
		{6, 0, 1, []int{6, 7, 8, 9, 10, 11}, 12},
		{6, 1 << 40, 1, []int{1099511627782, 1099511627783, 1099511627784, 1099511627785, 1099511627786, 1099511627787}, 1099511627788},
		{2, 0, 1 << 20, []int{2097152, 3145728}, 4194304},
		{6, 1 << 40, 1 << 20, []int{1099517919232, 1099518967808, 1099520016384, 1099521064960, 1099522113536, 1099523162112}, 1099524210688},
	} {
		s := swap(x.n, x.start, x.delta)
		mustTake(t, s)
		if !slices.Equal(Table(s), x.table) || Last(s) != x.table[x.n-1] || End(s) != x.end {
			t.Errorf("%d parties, Start %d, Delta %d: Table %v, Last %d, End %d", x.n, x.start, x.delta, Table(s), Last(s), End(s))
		}
		for i, want := range x.table {
			if got := Deadline(s, i+1); got != want {
				t.Errorf("%d parties, Start %d, Delta %d: Deadline of %d is %d, want %d", x.n, x.start, x.delta, i+1, got, want)
			}
		}
	}
}

func TestP61DeadlineOfEachPath(t *testing.T) {
	for _, s := range allSwaps() {
		mustTake(t, s)
		n := len(s.Parties)
		for k := 1; k <= n; k++ {
			if got, want := Deadline(s, k), behind(s, n+k-1); !is(got, want) {
				t.Fatalf("%d parties, Start %d, Delta %d: Deadline of %d is %d, want %v", n, s.Start, s.Delta, k, got, want)
			}
		}
	}
}

func TestP61DeadlineCutsThePath(t *testing.T) {
	for _, s := range allSwaps() {
		mustTake(t, s)
		n := len(s.Parties)
		first, last := behind(s, n), behind(s, 2*n-1)
		for _, k := range []int{0, -1, -2, -n, -1000, math.MinInt32, math.MinInt + 1, math.MinInt} {
			if got := Deadline(s, k); !is(got, first) {
				t.Fatalf("%d parties, Start %d, Delta %d: Deadline of %d is %d, want %v", n, s.Start, s.Delta, k, got, first)
			}
		}
		for _, k := range []int{n + 1, n + 2, 2 * n, 1000, math.MaxInt32, math.MaxInt - n, math.MaxInt - 1, math.MaxInt} {
			if got := Deadline(s, k); !is(got, last) {
				t.Fatalf("%d parties, Start %d, Delta %d: Deadline of %d is %d, want %v", n, s.Start, s.Delta, k, got, last)
			}
		}
	}
}

func TestP61Last(t *testing.T) {
	for _, s := range allSwaps() {
		n := len(s.Parties)
		if got := Last(s); got != Deadline(s, n) || !is(got, behind(s, 2*n-1)) {
			t.Fatalf("%d parties, Start %d, Delta %d: Last %d, Deadline of %d %d", n, s.Start, s.Delta, got, n, Deadline(s, n))
		}
	}
}

func TestP61End(t *testing.T) {
	for _, s := range allSwaps() {
		n := len(s.Parties)
		if got, want := End(s), behind(s, 2*n); !is(got, want) {
			t.Fatalf("%d parties, Start %d, Delta %d: End %d, want %v", n, s.Start, s.Delta, got, want)
		}
	}
}

func TestP61Table(t *testing.T) {
	for _, s := range allSwaps() {
		n, table := len(s.Parties), Table(s)
		if len(table) != n {
			t.Fatalf("%d parties: Table of %d", n, len(table))
		}
		for i, got := range table {
			if got != Deadline(s, i+1) || !is(got, behind(s, n+i)) {
				t.Fatalf("%d parties, Start %d, Delta %d: Table %v at %d, Deadline %d", n, s.Start, s.Delta, table, i, Deadline(s, i+1))
			}
		}
	}
}

// Of a swap the times hang on how many parties there are, on Start and on Delta alone.
func TestP61OtherPartsDoNotMatter(t *testing.T) {
	plain := swap(4, 50, 9)
	other := led(swap(4, 50, 9), 3)
	other.ID = "other"
	other.Arcs = []api.Arc{{From: 3, To: 1, Ledger: api.MaxLedgers - 1, Asset: "salt", Amount: api.MaxAmount}}
	mustTake(t, other)
	if !slices.Equal(Table(plain), Table(other)) || Last(plain) != Last(other) || End(plain) != End(other) {
		t.Errorf("Table %v and %v, Last %d and %d, End %d and %d", Table(plain), Table(other), Last(plain), Last(other), End(plain), End(other))
	}
}

type change struct {
	name  string
	apply func(s *api.Spec)
}

// broken are changes of a swap of three parties and two leaders, each of which breaks one of its parts.
func broken() []change {
	list := slices.Concat(brokenNumbers(), brokenLists(), []change{
		{"no ID", func(s *api.Spec) { s.ID = "" }},
		{"a long ID", func(s *api.Spec) { s.ID = strings.Repeat("x", api.MaxName+1) }},
		{"no account", func(s *api.Spec) { s.Parties[2].Account = "" }},
		{"a long account", func(s *api.Spec) { s.Parties[2].Account = strings.Repeat("x", api.MaxName+1) }},
		{"accounts alike", func(s *api.Spec) { s.Parties[2].Account = s.Parties[0].Account }},
		{"a key short", func(s *api.Spec) { s.Parties[2].Keys[1] = s.Parties[2].Keys[1][1:] }},
		{"a lock short", func(s *api.Spec) { s.Locks[1] = s.Locks[1][1:] }},
		{"a lock long", func(s *api.Spec) { s.Locks[1] += "d" }},
		{"leaders alike", func(s *api.Spec) { s.Leaders[1] = s.Leaders[0] }},
		{"an arc to its own party", func(s *api.Spec) { s.Arcs[1].To = s.Arcs[1].From }},
		{"arcs alike", func(s *api.Spec) { s.Arcs = append(s.Arcs, s.Arcs[0]) }},
		{"no asset", func(s *api.Spec) { s.Arcs[1].Asset = "" }},
		{"a long asset", func(s *api.Spec) { s.Arcs[1].Asset = strings.Repeat("x", api.MaxName+1) }},
	})
	return append(list, change{"all of it", func(s *api.Spec) { *s = api.Spec{} }})
}

func brokenNumbers() []change {
	var list []change
	for _, below := range []int{-1, -1000, math.MinInt} {
		list = append(list, change{"Start below 0", func(s *api.Spec) { s.Start = below }})
	}
	for _, above := range []int{api.MaxTime + 1, 2 * api.MaxTime, math.MaxInt} {
		list = append(list, change{"Start too great", func(s *api.Spec) { s.Start = above }})
	}
	for _, below := range []int{0, -1, math.MinInt} {
		list = append(list, change{"Delta below 1", func(s *api.Spec) { s.Delta = below }})
		list = append(list, change{"an amount below 1", func(s *api.Spec) { s.Arcs[1].Amount = below }})
	}
	for _, above := range []int{api.MaxDelta + 1, 2 * api.MaxDelta, math.MaxInt} {
		list = append(list, change{"Delta too great", func(s *api.Spec) { s.Delta = above }})
	}
	for _, far := range []int{-1, math.MinInt, math.MaxInt} {
		list = append(list, change{"a ledger that is none", func(s *api.Spec) { s.Arcs[1].Ledger = far }})
	}
	for _, far := range []int{-1, 3, math.MinInt, math.MaxInt} {
		list = append(list,
			change{"a leader that is none", func(s *api.Spec) { s.Leaders[1] = far }},
			change{"From that is none", func(s *api.Spec) { s.Arcs[1].From = far }},
			change{"To that is none", func(s *api.Spec) { s.Arcs[1].To = far }},
		)
	}
	return append(list,
		change{"the ledger behind the last", func(s *api.Spec) { s.Arcs[1].Ledger = api.MaxLedgers }},
		change{"an amount too great", func(s *api.Spec) { s.Arcs[1].Amount = api.MaxAmount + 1 }},
	)
}

func brokenLists() []change {
	return []change{
		{"no party", func(s *api.Spec) { s.Parties = nil }},
		{"one party", func(s *api.Spec) {
			*s = swap(2, 10, 5)
			s.Parties, s.Arcs = s.Parties[:1], s.Arcs[:1]
		}},
		{"seven parties", func(s *api.Spec) { *s = swap(7, 10, 5) }},
		{"a million parties", func(s *api.Spec) { s.Parties = make([]api.Party, 1<<20) }},
		{"no key", func(s *api.Spec) { s.Parties[2].Keys = nil }},
		{"a key too few", func(s *api.Spec) { s.Parties[2].Keys = digests(1, api.Short) }},
		{"a key too many", func(s *api.Spec) { s.Parties[2].Keys = digests(3, api.Short) }},
		{"no leader", func(s *api.Spec) { *s = led(*s, 0) }},
		{"four leaders", func(s *api.Spec) { *s = led(swap(4, 10, 5), 4) }},
		{"no lock", func(s *api.Spec) { s.Locks = nil }},
		{"a lock too few", func(s *api.Spec) { s.Locks = s.Locks[:1] }},
		{"a lock too many", func(s *api.Spec) { s.Locks = digests(3, api.Hash) }},
		{"no arc", func(s *api.Spec) { s.Arcs = nil }},
		{"a million arcs", func(s *api.Spec) { s.Arcs = make([]api.Arc, 1<<20) }},
		{"thirteen arcs", func(s *api.Spec) {
			*s = swap(6, 10, 5)
			for i := range 7 {
				s.Arcs = append(s.Arcs, api.Arc{From: i % 6, To: (i + 2 + i/6) % 6, Asset: "gold", Amount: 1})
			}
		}},
	}
}

func TestP61RefusedSwapsHaveNoTimes(t *testing.T) {
	mustTake(t, led(swap(3, 10, 5), 2))
	for _, c := range broken() {
		s := led(swap(3, 10, 5), 2)
		c.apply(&s)
		if spec.Check(s) {
			t.Fatalf("%s: Check takes it", c.name)
		}
		for _, k := range []int{0, 1, 2, 3, 4, -1, math.MinInt, math.MaxInt} {
			if got := Deadline(s, k); got != 0 {
				t.Errorf("%s: Deadline of %d is %d", c.name, k, got)
			}
		}
		if Last(s) != 0 || End(s) != 0 || len(Table(s)) != 0 {
			t.Errorf("%s: Last %d, End %d, Table %v", c.name, Last(s), End(s), Table(s))
		}
	}
}

// A swap need not be one that graph's Valid takes.
func TestP61SwapsThatDoNotGoRoundHaveTimes(t *testing.T) {
	s := swap(3, 10, 5)
	s.Arcs = s.Arcs[:1]
	mustTake(t, s)
	if !slices.Equal(Table(s), []int{25, 30, 35}) || Last(s) != 35 || End(s) != 40 || Deadline(s, 2) != 30 {
		t.Errorf("Table %v, Last %d, End %d", Table(s), Last(s), End(s))
	}
}

func TestP62EachIsDeltaBehindTheOneAhead(t *testing.T) {
	for _, s := range allSwaps() {
		n := len(s.Parties)
		table := Table(s)
		for k := 2; k <= n; k++ {
			if Deadline(s, k)-Deadline(s, k-1) != s.Delta || table[k-1]-table[k-2] != s.Delta {
				t.Fatalf("%d parties, Start %d, Delta %d: %v", n, s.Start, s.Delta, table)
			}
		}
		if End(s)-Last(s) != s.Delta {
			t.Fatalf("%d parties, Start %d, Delta %d: Last %d, End %d", n, s.Start, s.Delta, Last(s), End(s))
		}
	}
}

func TestP62NoNumberGoesRound(t *testing.T) {
	most := behind(swap(api.MaxParties, api.MaxTime, api.MaxDelta), 2*api.MaxParties)
	for _, s := range allSwaps() {
		for _, got := range append(Table(s), Last(s), End(s), Deadline(s, math.MinInt), Deadline(s, math.MaxInt)) {
			if got <= s.Start || big.NewInt(int64(got)).Cmp(most) > 0 {
				t.Fatalf("%d parties, Start %d, Delta %d: %d", len(s.Parties), s.Start, s.Delta, got)
			}
		}
	}
	if !is(End(swap(api.MaxParties, api.MaxTime, api.MaxDelta)), most) {
		t.Error("the greatest End is another")
	}
}

// What is handed in stays as it is, and what is answered is nobody else's.
func TestR3NothingIsChangedOrShared(t *testing.T) {
	s, was := led(swap(4, 50, 9), 2), led(swap(4, 50, 9), 2)
	table, again := Table(s), Table(s)
	table[0] = 77
	_ = append(table, 88)
	if !slices.Equal(again, []int{86, 95, 104, 113}) || !slices.Equal(Table(s), again) {
		t.Errorf("Table %v, then %v", again, Table(s))
	}
	if Deadline(s, 1) != 86 || Last(s) != 113 || End(s) != 122 {
		t.Errorf("Deadline %d, Last %d, End %d", Deadline(s, 1), Last(s), End(s))
	}
	if !reflect.DeepEqual(s, was) {
		t.Error("what was handed in is changed")
	}
}
