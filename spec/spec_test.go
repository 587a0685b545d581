package spec

import (
	"encoding/binary"
	"math"
	"math/rand"
	"reflect"
	"strings"
	"testing"

	"handsel/api"
)

// swap is a ring of three parties with an arc back, and two leaders; no two of its digests are alike.
func swap() api.Spec {
	return api.Spec{
		ID: "swap",
		Parties: []api.Party{
			{Account: "ann", Keys: []string{of('a', 16), of('b', 16)}},
			{Account: "bob", Keys: []string{of('c', 16), of('d', 16)}},
			{Account: "cy", Keys: []string{of('e', 16), of('f', 16)}},
		},
		Arcs: []api.Arc{
			{From: 0, To: 1, Ledger: 0, Asset: "gold", Amount: 3},
			{From: 1, To: 2, Ledger: 1, Asset: "salt", Amount: 5},
			{From: 2, To: 0, Ledger: 2, Asset: "wool", Amount: 7},
			{From: 1, To: 0, Ledger: 0, Asset: "gold", Amount: 3},
		},
		Leaders: []int{0, 2},
		Locks:   []string{of('g', 32), of('h', 32)},
		Start:   11,
		Delta:   13,
	}
}

// small is as little as a swap may be.
func small() api.Spec {
	return api.Spec{
		ID: "s",
		Parties: []api.Party{
			{Account: "a", Keys: []string{of('1', 16)}},
			{Account: "b", Keys: []string{of('2', 16)}},
		},
		Arcs:    []api.Arc{{From: 1, To: 0, Ledger: 0, Asset: "g", Amount: 1}},
		Leaders: []int{0},
		Locks:   []string{of('3', 32)},
		Start:   0,
		Delta:   1,
	}
}

// great has as many parties, leaders and arcs as there may be, and each name and number as great as may be.
func great() api.Spec {
	s := api.Spec{ID: of('i', 16), Leaders: []int{5, 0, 3}, Start: 1 << 40, Delta: 1 << 20}
	for i := range 3 {
		s.Locks = append(s.Locks, of(byte(i), 32))
	}
	for i := range 6 {
		key := byte(255 - i)
		s.Parties = append(s.Parties, api.Party{Account: of(byte('p'+i), 16), Keys: []string{of(key, 16), of(key, 16), of(key-100, 16)}})
	}
	for i := range 12 {
		s.Arcs = append(s.Arcs, api.Arc{From: i % 6, To: (i + 1 + i/6) % 6, Ledger: 3, Asset: of('x', 16), Amount: 1 << 50})
	}
	return s
}

func of(b byte, size int) string { return strings.Repeat(string([]byte{b}), size) }

// number and text are what chapter 3 makes of them, by the library's means.
func number(v int) string { return string(binary.BigEndian.AppendUint64(nil, uint64(v))) }

func text(s string) string { return number(len(s)) + s }

// laid is any swap in the order of P4.2, whether Check takes it or not.
func laid(s api.Spec) string {
	out := text(s.ID) + number(len(s.Parties))
	for _, p := range s.Parties {
		out += text(p.Account) + number(len(p.Keys))
		for _, k := range p.Keys {
			out += text(k)
		}
	}
	out += number(len(s.Arcs))
	for _, a := range s.Arcs {
		out += number(a.From) + number(a.To) + number(a.Ledger) + text(a.Asset) + number(a.Amount)
	}
	out += number(len(s.Leaders))
	for _, l := range s.Leaders {
		out += number(l)
	}
	out += number(len(s.Locks))
	for _, l := range s.Locks {
		out += text(l)
	}
	return out + number(s.Start) + number(s.Delta)
}

type change struct {
	name  string
	apply func(s *api.Spec)
}

// setLeaders lets those lead, with as many locks and keys as there must be then.
func setLeaders(s *api.Spec, leaders ...int) {
	s.Leaders, s.Locks = leaders, nil
	for i := range leaders {
		s.Locks = append(s.Locks, of(byte('A'+i), 32))
	}
	for p := range s.Parties {
		s.Parties[p].Keys = nil
		for i := range leaders {
			s.Parties[p].Keys = append(s.Parties[p].Keys, of(byte('K'+i), 16))
		}
	}
}

func addParty(s *api.Spec) {
	account := string([]byte{'z', byte('0' + len(s.Parties))})
	var keys []string
	for range s.Leaders {
		keys = append(keys, of('k', 16))
	}
	s.Parties = append(s.Parties, api.Party{Account: account, Keys: keys})
}

// kept are changes of swap that leave it one that may be.
func kept() []change {
	return []change{
		{"an ID of one byte", func(s *api.Spec) { s.ID = "x" }},
		{"an ID of MaxName bytes", func(s *api.Spec) { s.ID = of('x', 16) }},
		{"an ID of any bytes", func(s *api.Spec) { s.ID = "\x00\xff\n " }},
		{"an account of one byte", func(s *api.Spec) { s.Parties[2].Account = "x" }},
		{"an account of MaxName bytes", func(s *api.Spec) { s.Parties[2].Account = of('x', 16) }},
		{"an account that begins as another", func(s *api.Spec) { s.Parties[2].Account = "bo" }},
		{"an account as the ID", func(s *api.Spec) { s.Parties[2].Account = s.ID }},
		{"six parties", func(s *api.Spec) { addParty(s); addParty(s); addParty(s) }},
		{"one leader", func(s *api.Spec) { setLeaders(s, 1) }},
		{"three leaders", func(s *api.Spec) { setLeaders(s, 2, 1, 0) }},
		{"locks alike", func(s *api.Spec) { s.Locks[1] = s.Locks[0] }},
		{"keys alike", func(s *api.Spec) { s.Parties[1].Keys[1] = s.Parties[1].Keys[0] }},
		{"keys as another's", func(s *api.Spec) { s.Parties[1].Keys = s.Parties[0].Keys }},
		{"one arc", func(s *api.Spec) { s.Arcs = s.Arcs[:1] }},
		{"six arcs", func(s *api.Spec) {
			s.Arcs = append(s.Arcs, api.Arc{From: 2, To: 1, Asset: "x", Amount: 1}, api.Arc{From: 0, To: 2, Asset: "x", Amount: 1})
		}},
		{"an arc of a party without another", func(s *api.Spec) { addParty(s); s.Arcs[0].To = 3 }},
		{"arcs alike but for From", func(s *api.Spec) { s.Arcs[3] = s.Arcs[1]; s.Arcs[3].From = 0 }},
		{"arcs alike but for To", func(s *api.Spec) { s.Arcs[3] = s.Arcs[1]; s.Arcs[3].To = 0 }},
		{"ledger 0", func(s *api.Spec) { s.Arcs[1].Ledger = 0 }},
		{"the last ledger", func(s *api.Spec) { s.Arcs[1].Ledger = 3 }},
		{"an asset of one byte", func(s *api.Spec) { s.Arcs[1].Asset = "x" }},
		{"an asset of MaxName bytes", func(s *api.Spec) { s.Arcs[1].Asset = of('x', 16) }},
		{"an amount of 1", func(s *api.Spec) { s.Arcs[1].Amount = 1 }},
		{"an amount of MaxAmount", func(s *api.Spec) { s.Arcs[1].Amount = 1 << 50 }},
		{"a start of 0", func(s *api.Spec) { s.Start = 0 }},
		{"a start of MaxTime", func(s *api.Spec) { s.Start = 1 << 40 }},
		{"a delta of 1", func(s *api.Spec) { s.Delta = 1 }},
		{"a delta of MaxDelta", func(s *api.Spec) { s.Delta = 1 << 20 }},
	}
}

// broken are changes of swap that break one condition each.
func broken() []change {
	list := []change{
		{"no ID", func(s *api.Spec) { s.ID = "" }},
		{"a long ID", func(s *api.Spec) { s.ID = of('x', 17) }},
		{"one party", func(s *api.Spec) { *s = small(); s.Parties = s.Parties[:1]; s.Arcs[0] = api.Arc{Asset: "g", Amount: 1} }},
		{"no party", func(s *api.Spec) { s.Parties = nil }},
		{"no account", func(s *api.Spec) { s.Parties[2].Account = "" }},
		{"a long account", func(s *api.Spec) { s.Parties[2].Account = of('x', 17) }},
		{"the first account long", func(s *api.Spec) { s.Parties[0].Account = of('x', 17) }},
		{"accounts 0 and 1 alike", func(s *api.Spec) { s.Parties[1].Account = "ann" }},
		{"accounts 0 and 2 alike", func(s *api.Spec) { s.Parties[2].Account = "ann" }},
		{"accounts 1 and 2 alike", func(s *api.Spec) { s.Parties[2].Account = "bob" }},
		{"seven parties", func(s *api.Spec) { addParty(s); addParty(s); addParty(s); addParty(s) }},
		{"no leader", func(s *api.Spec) { setLeaders(s) }},
		{"four leaders", func(s *api.Spec) { addParty(s); setLeaders(s, 0, 1, 2, 3) }},
		{"leaders alike", func(s *api.Spec) { s.Leaders[1] = 0 }},
		{"the last of three leaders as the first", func(s *api.Spec) { setLeaders(s, 1, 0, 1) }},
		{"a leader that there is not", func(s *api.Spec) { s.Leaders[1] = 3 }},
		{"a leader below 0", func(s *api.Spec) { s.Leaders[1] = -1 }},
		{"a lock too few", func(s *api.Spec) { s.Locks = s.Locks[:1] }},
		{"a lock too many", func(s *api.Spec) { s.Locks = append(s.Locks, of('x', 32)) }},
		{"no lock", func(s *api.Spec) { s.Locks = nil }},
		{"a short lock", func(s *api.Spec) { s.Locks[1] = of('x', 31) }},
		{"a long lock", func(s *api.Spec) { s.Locks[1] = of('x', 33) }},
		{"an empty lock", func(s *api.Spec) { s.Locks[0] = "" }},
		{"a key too few", func(s *api.Spec) { s.Parties[2].Keys = s.Parties[2].Keys[:1] }},
		{"a key too many", func(s *api.Spec) { s.Parties[2].Keys = append(s.Parties[2].Keys, of('x', 16)) }},
		{"no key", func(s *api.Spec) { s.Parties[0].Keys = nil }},
		{"a short key", func(s *api.Spec) { s.Parties[2].Keys[1] = of('x', 15) }},
		{"a long key", func(s *api.Spec) { s.Parties[2].Keys[1] = of('x', 17) }},
		{"an empty key", func(s *api.Spec) { s.Parties[0].Keys[0] = "" }},
		{"no arc", func(s *api.Spec) { s.Arcs = nil }},
		{"thirteen arcs", func(s *api.Spec) {
			*s = great()
			s.Arcs = append(s.Arcs, api.Arc{From: 0, To: 5, Asset: "x", Amount: 1})
		}},
		{"an arc to itself", func(s *api.Spec) { s.Arcs[2].To = 2 }},
		{"From below 0", func(s *api.Spec) { s.Arcs[1].From = -1 }},
		{"To below 0", func(s *api.Spec) { s.Arcs[1].To = -1 }},
		{"From too great", func(s *api.Spec) { s.Arcs[1].From = 3 }},
		{"To too great", func(s *api.Spec) { s.Arcs[1].To = 3 }},
		{"arcs 0 and 3 of the same both", func(s *api.Spec) {
			s.Arcs[3] = api.Arc{From: 0, To: 1, Ledger: 3, Asset: "other", Amount: 99}
		}},
		{"arcs 1 and 3 of the same both", func(s *api.Spec) { s.Arcs[3].To = 2 }},
		{"arcs 2 and 3 alike", func(s *api.Spec) { s.Arcs[3] = s.Arcs[2] }},
		{"a ledger below 0", func(s *api.Spec) { s.Arcs[1].Ledger = -1 }},
		{"a ledger too great", func(s *api.Spec) { s.Arcs[1].Ledger = 4 }},
		{"no asset", func(s *api.Spec) { s.Arcs[1].Asset = "" }},
		{"a long asset", func(s *api.Spec) { s.Arcs[1].Asset = of('x', 17) }},
		{"an amount of 0", func(s *api.Spec) { s.Arcs[1].Amount = 0 }},
		{"an amount below 0", func(s *api.Spec) { s.Arcs[1].Amount = -1 }},
		{"an amount too great", func(s *api.Spec) { s.Arcs[1].Amount = 1<<50 + 1 }},
		{"a start below 0", func(s *api.Spec) { s.Start = -1 }},
		{"a start too great", func(s *api.Spec) { s.Start = 1<<40 + 1 }},
		{"a delta of 0", func(s *api.Spec) { s.Delta = 0 }},
		{"a delta below 0", func(s *api.Spec) { s.Delta = -1 }},
		{"a delta too great", func(s *api.Spec) { s.Delta = 1<<20 + 1 }},
	}
	for _, end := range []int{math.MinInt, math.MaxInt} {
		list = append(list,
			change{"a leader at an end", func(s *api.Spec) { s.Leaders[0] = end }},
			change{"From at an end", func(s *api.Spec) { s.Arcs[3].From = end }},
			change{"To at an end", func(s *api.Spec) { s.Arcs[3].To = end }},
			change{"a ledger at an end", func(s *api.Spec) { s.Arcs[3].Ledger = end }},
			change{"an amount at an end", func(s *api.Spec) { s.Arcs[3].Amount = end }},
			change{"a start at an end", func(s *api.Spec) { s.Start = end }},
			change{"a delta at an end", func(s *api.Spec) { s.Delta = end }},
		)
	}
	return list
}

// changed is swap with a change.
func changed(c change) api.Spec {
	s := swap()
	c.apply(&s)
	return s
}

func TestP41CheckTakesWhatIsJustKept(t *testing.T) {
	for _, s := range []api.Spec{swap(), small(), great()} {
		if !Check(s) {
			t.Errorf("Check refuses %v", s)
		}
	}
	for _, c := range kept() {
		if !Check(changed(c)) {
			t.Errorf("Check refuses %s", c.name)
		}
	}
}

func TestP41CheckRefusesWhatIsJustBroken(t *testing.T) {
	if Check(api.Spec{}) {
		t.Error("Check takes the empty swap")
	}
	for _, c := range broken() {
		if Check(changed(c)) {
			t.Errorf("Check takes %s", c.name)
		}
	}
}

func TestP41CheckEndsAtLongLists(t *testing.T) {
	many := 1 << 20
	for _, c := range []change{
		{"parties", func(s *api.Spec) { s.Parties = make([]api.Party, many) }},
		{"arcs", func(s *api.Spec) { s.Arcs = make([]api.Arc, many) }},
		{"leaders", func(s *api.Spec) { s.Leaders = make([]int, many) }},
		{"locks", func(s *api.Spec) { s.Locks = make([]string, many) }},
		{"keys", func(s *api.Spec) { s.Parties[1].Keys = make([]string, many) }},
		{"an ID", func(s *api.Spec) { s.ID = of('x', many) }},
	} {
		if s := changed(c); Check(s) || Bytes(s) != "" || !Same(s, changed(c)) || Same(s, swap()) {
			t.Errorf("a million of %s", c.name)
		}
	}
}

// otherwise are changes of one thing each, of every thing that a swap has.
func otherwise() []change {
	list := []change{
		{"ID", func(s *api.Spec) { s.ID = "Swap" }},
		{"ID shorter", func(s *api.Spec) { s.ID = "swa" }},
		{"ID longer", func(s *api.Spec) { s.ID = "swap\x00" }},
		{"no Parties", func(s *api.Spec) { s.Parties = nil }},
		{"Parties a beginning", func(s *api.Spec) { s.Parties = s.Parties[:2] }},
		{"Parties an end", func(s *api.Spec) { s.Parties = s.Parties[1:] }},
		{"Parties turned", func(s *api.Spec) { s.Parties[0], s.Parties[1] = s.Parties[1], s.Parties[0] }},
		{"a party more", func(s *api.Spec) { s.Parties = append(s.Parties, api.Party{}) }},
		{"no Arcs", func(s *api.Spec) { s.Arcs = nil }},
		{"Arcs a beginning", func(s *api.Spec) { s.Arcs = s.Arcs[:3] }},
		{"Arcs an end", func(s *api.Spec) { s.Arcs = s.Arcs[1:] }},
		{"Arcs turned", func(s *api.Spec) { s.Arcs[0], s.Arcs[1] = s.Arcs[1], s.Arcs[0] }},
		{"an arc more", func(s *api.Spec) { s.Arcs = append(s.Arcs, api.Arc{}) }},
		{"no Leaders", func(s *api.Spec) { s.Leaders = nil }},
		{"Leaders a beginning", func(s *api.Spec) { s.Leaders = s.Leaders[:1] }},
		{"Leaders turned", func(s *api.Spec) { s.Leaders = []int{2, 0} }},
		{"a leader more", func(s *api.Spec) { s.Leaders = append(s.Leaders, 0) }},
		{"no Locks", func(s *api.Spec) { s.Locks = nil }},
		{"Locks a beginning", func(s *api.Spec) { s.Locks = s.Locks[:1] }},
		{"Locks turned", func(s *api.Spec) { s.Locks[0], s.Locks[1] = s.Locks[1], s.Locks[0] }},
		{"a lock more", func(s *api.Spec) { s.Locks = append(s.Locks, "") }},
		{"Start", func(s *api.Spec) { s.Start = -s.Start }},
		{"Delta", func(s *api.Spec) { s.Delta++ }},
		{"Start and Delta turned", func(s *api.Spec) { s.Start, s.Delta = s.Delta, s.Start }},
	}
	for i := range 3 {
		list = append(list,
			change{"an Account", func(s *api.Spec) { s.Parties[i].Account += "x" }},
			change{"a first key", func(s *api.Spec) { s.Parties[i].Keys[0] = of('x', 16) }},
			change{"a last key", func(s *api.Spec) { s.Parties[i].Keys[1] = of('x', 16) }},
			change{"no Keys", func(s *api.Spec) { s.Parties[i].Keys = nil }},
			change{"Keys a beginning", func(s *api.Spec) { s.Parties[i].Keys = s.Parties[i].Keys[:1] }},
			change{"a key more", func(s *api.Spec) { s.Parties[i].Keys = append(s.Parties[i].Keys, "") }},
		)
	}
	for i := range 4 {
		list = append(list,
			change{"From", func(s *api.Spec) { s.Arcs[i].From += 4 }},
			change{"To", func(s *api.Spec) { s.Arcs[i].To -= 4 }},
			change{"Ledger", func(s *api.Spec) { s.Arcs[i].Ledger++ }},
			change{"Asset", func(s *api.Spec) { s.Arcs[i].Asset = "Gold" }},
			change{"Amount", func(s *api.Spec) { s.Arcs[i].Amount++ }},
			change{"From and To turned", func(s *api.Spec) { s.Arcs[i].From, s.Arcs[i].To = s.Arcs[i].To, s.Arcs[i].From }},
		)
	}
	for i := range 2 {
		list = append(list,
			change{"a leader", func(s *api.Spec) { s.Leaders[i] = 1 }},
			change{"a lock", func(s *api.Spec) { s.Locks[i] = of('x', 32) }},
		)
	}
	return list
}

func TestP41SameTellsEachThingOtherwise(t *testing.T) {
	for _, c := range otherwise() {
		if s := changed(c); Same(s, swap()) || Same(swap(), s) {
			t.Errorf("Same does not see: %s", c.name)
		}
	}
}

func TestP41SameOfAlike(t *testing.T) {
	for _, build := range []func() api.Spec{swap, small, great, func() api.Spec { return api.Spec{} }} {
		if !Same(build(), build()) {
			t.Errorf("Same says no of %v twice", build())
		}
	}
	for _, c := range append(broken(), otherwise()...) {
		if !Same(changed(c), changed(c)) {
			t.Errorf("Same says no of a swap and itself: %s", c.name)
		}
	}
}

func TestP41SameTakesNilAndEmptyAsOne(t *testing.T) {
	a := api.Spec{ID: "x", Parties: []api.Party{{Account: "a"}}}
	b := api.Spec{ID: "x", Parties: []api.Party{{Account: "a", Keys: []string{}}}, Arcs: []api.Arc{}, Leaders: []int{}, Locks: []string{}}
	if !Same(a, b) || !Same(b, a) || !Same(api.Spec{}, api.Spec{Parties: []api.Party{}}) {
		t.Error("nil and an empty list are not one")
	}
}

func TestP42BytesOfASmallSwapWrittenOut(t *testing.T) {
	want := "\x00\x00\x00\x00\x00\x00\x00\x01" + "s" +
		"\x00\x00\x00\x00\x00\x00\x00\x02" + // parties
		"\x00\x00\x00\x00\x00\x00\x00\x01" + "a" +
		"\x00\x00\x00\x00\x00\x00\x00\x01" +
		"\x00\x00\x00\x00\x00\x00\x00\x10" + "1111111111111111" +
		"\x00\x00\x00\x00\x00\x00\x00\x01" + "b" +
		"\x00\x00\x00\x00\x00\x00\x00\x01" +
		"\x00\x00\x00\x00\x00\x00\x00\x10" + "2222222222222222" +
		"\x00\x00\x00\x00\x00\x00\x00\x01" + // arcs
		"\x00\x00\x00\x00\x00\x00\x00\x01" + // from 1
		"\x00\x00\x00\x00\x00\x00\x00\x00" + // to 0
		"\x00\x00\x00\x00\x00\x00\x00\x03" + // on ledger 3
		"\x00\x00\x00\x00\x00\x00\x00\x01" + "g" +
		"\x00\x04\x00\x00\x00\x00\x00\x00" + // 2^50
		"\x00\x00\x00\x00\x00\x00\x00\x01" + // leaders
		"\x00\x00\x00\x00\x00\x00\x00\x00" +
		"\x00\x00\x00\x00\x00\x00\x00\x01" + // locks
		"\x00\x00\x00\x00\x00\x00\x00\x20" + "33333333333333333333333333333333" +
		"\x00\x00\x01\x00\x00\x00\x00\x00" + // from 2^40 on
		"\x00\x00\x00\x00\x00\x00\x02\x01"
	s := small()
	s.Arcs[0].Ledger, s.Arcs[0].Amount, s.Start, s.Delta = 3, 1<<50, 1<<40, 513
	if got := Bytes(s); got != want {
		t.Errorf("Bytes are %x, want %x", got, want)
	}
	if got, e := Read(want); e != api.OK || !reflect.DeepEqual(got, s) {
		t.Errorf("Read answers %v, %d, want %v, 0", got, e, s)
	}
}

func TestP42BytesAreInTheirOrder(t *testing.T) {
	for _, s := range []api.Spec{swap(), small(), great()} {
		if got := Bytes(s); got != laid(s) {
			t.Errorf("Bytes of %v are %x, want %x", s, got, laid(s))
		}
	}
	for _, c := range kept() {
		if got := Bytes(changed(c)); got != laid(changed(c)) {
			t.Errorf("Bytes with %s are %x, want %x", c.name, got, laid(changed(c)))
		}
	}
}

func TestP42BytesOfWhatCheckRefusesAreEmpty(t *testing.T) {
	if got := Bytes(api.Spec{}); got != "" {
		t.Errorf("the empty swap has bytes %x", got)
	}
	for _, c := range broken() {
		if got := Bytes(changed(c)); got != "" {
			t.Errorf("a swap with %s has bytes %x", c.name, got)
		}
	}
}

// refused fails the test unless Read answers zero and ErrBytes.
func refused(t *testing.T, what, b string) {
	t.Helper()
	if s, e := Read(b); e != api.ErrBytes || !reflect.DeepEqual(s, api.Spec{}) {
		t.Errorf("Read of %s answers %v, %d, want zero and ErrBytes", what, s, e)
	}
}

func TestP42ReadRefusesWhatIsCutOrLonger(t *testing.T) {
	for _, s := range []api.Spec{swap(), small(), great()} {
		b := laid(s)
		for i := range len(b) {
			refused(t, "cut bytes", b[:i])
			refused(t, "bytes without their front", b[i+1:])
		}
		for _, more := range []string{"\x00", "x", "\xff", number(0), b} {
			refused(t, "bytes with more", b+more)
		}
		refused(t, "bytes with one ahead", "\x00"+b)
	}
}

func TestP42ReadRefusesWhatCheckRefuses(t *testing.T) {
	refused(t, "the empty swap", laid(api.Spec{}))
	for _, c := range broken() {
		refused(t, c.name, laid(changed(c)))
	}
}

// countsOf are all the kinds of counts and sizes in the bytes of swap: where they stand, and what they are.
func countsOf() map[string][2]int {
	parties := len(text("swap"))
	keys := parties + 8 + len(text("ann"))
	arcs := len(laid(api.Spec{ID: "swap", Parties: swap().Parties})) - 5*8
	locks := len(laid(swap())) - 2*8 - 2*(8+32) - 8
	return map[string][2]int{
		"ID":      {0, 4},
		"Parties": {parties, 3},
		"Account": {parties + 8, 3},
		"Keys":    {keys, 2},
		"a key":   {keys + 8, 16},
		"Arcs":    {arcs, 4},
		"Asset":   {arcs + 4*8, 4},
		"Leaders": {locks - 3*8, 2},
		"Locks":   {locks, 2},
		"a lock":  {locks + 8, 32},
	}
}

func TestP42ReadRefusesCountsThatMayNotBe(t *testing.T) {
	b := laid(swap())
	for name, count := range countsOf() {
		at, was := count[0], count[1]
		if b[at:at+8] != number(was) {
			t.Fatalf("%s is not at %d", name, at)
		}
		for _, v := range []int{-1, -was, 0, was - 1, was + 1, 7, 13, 17, 33, 1 << 14, 1 << 31, 1 << 40, math.MaxInt, math.MinInt} {
			refused(t, name, b[:at]+number(v)+b[at+8:])
			refused(t, name+", nothing behind", b[:at]+number(v))
		}
	}
}

func TestP42ReadRefusesOddBytes(t *testing.T) {
	for _, b := range []string{"", "x", number(0), number(1), number(-1), number(math.MaxInt), number(math.MinInt), text("swap"), "swap", of(0, 400), of(255, 400), of(1, 400)} {
		refused(t, "odd bytes", b)
	}
}

// readAsBytes fails the test unless Read answers either a swap with just those bytes, or zero and ErrBytes.
func readAsBytes(t *testing.T, b string) api.Errno {
	t.Helper()
	s, e := Read(b)
	if e == api.OK && (!Check(s) || laid(s) != b || Bytes(s) != b) {
		t.Errorf("Read of %x answers %v, which has other bytes", b, s)
	}
	if e != api.OK && (e != api.ErrBytes || !reflect.DeepEqual(s, api.Spec{})) {
		t.Errorf("Read of %x answers %v, %d", b, s, e)
	}
	return e
}

func TestP43BytesAreReadAsThat(t *testing.T) {
	for _, s := range []api.Spec{swap(), small(), great()} {
		if got, e := Read(Bytes(s)); e != api.OK || !reflect.DeepEqual(got, s) {
			t.Errorf("%v is read as %v, %d", s, got, e)
		}
	}
	for _, c := range kept() {
		s := changed(c)
		if got, e := Read(Bytes(s)); e != api.OK || !Same(got, s) || !reflect.DeepEqual(got, s) {
			t.Errorf("a swap with %s is read as %v, %d", c.name, got, e)
		}
	}
}

func TestP43SwapsThatAreNotAlikeHaveOtherBytes(t *testing.T) {
	for _, c := range otherwise() {
		if s := changed(c); Check(s) && Bytes(s) == Bytes(swap()) {
			t.Errorf("the same bytes, though otherwise: %s", c.name)
		}
	}
}

func TestP43OneByteTurnedIsAnotherSwapOrNone(t *testing.T) {
	for _, s := range []api.Spec{swap(), small()} {
		b := laid(s)
		for i := range len(b) {
			for mask := 1; mask < 256; mask++ {
				turned := b[:i] + string([]byte{b[i] ^ byte(mask)}) + b[i+1:]
				if e := readAsBytes(t, turned); e != api.OK {
					continue
				}
				if got, _ := Read(turned); Same(got, s) {
					t.Fatalf("byte %d turned by %x is read as the same swap", i, mask)
				}
			}
		}
	}
}

func TestP43PiecesPutTogetherAnyhow(t *testing.T) {
	source := rand.New(rand.NewSource(4))
	whole := laid(swap())
	for range 20000 {
		i, j := source.Intn(len(whole)+1), source.Intn(len(whole)+1)
		readAsBytes(t, whole[:i]+whole[j:])
		readAsBytes(t, whole[:i]+number(source.Intn(40)-8)+whole[i:][min(8, len(whole)-i):])
	}
}

// some is a swap whose every number and list is drawn; most may not be.
func some(source *rand.Rand) api.Spec {
	s := swap()
	for range source.Intn(4) {
		list := append(kept(), otherwise()...)
		func() {
			// A change may name what an earlier one has taken away; then it is no change.
			defer func() { _ = recover() }()
			list[source.Intn(len(list))].apply(&s)
		}()
	}
	return s
}

func TestP43DrawnSwaps(t *testing.T) {
	source := rand.New(rand.NewSource(5))
	taken := 0
	for range 3000 {
		s := some(source)
		b := Bytes(s)
		if (b != "") != Check(s) || b != "" && b != laid(s) {
			t.Fatalf("Bytes of %v are %x", s, b)
		}
		got, e := Read(laid(s))
		if Check(s) && (e != api.OK || !reflect.DeepEqual(got, s)) || !Check(s) && e != api.ErrBytes {
			t.Fatalf("%v is read as %v, %d", s, got, e)
		}
		if b != "" {
			taken++
		}
	}
	if taken < 300 {
		t.Errorf("only %d of the drawn swaps may be", taken)
	}
}

func TestNothingHandedInIsChanged(t *testing.T) {
	for _, c := range append(append(kept(), broken()...), otherwise()...) {
		s := changed(c)
		Check(s)
		Bytes(s)
		Same(s, swap())
		Same(swap(), s)
		if !reflect.DeepEqual(s, changed(c)) {
			t.Errorf("changed: %s", c.name)
		}
	}
}

func TestWhatIsReadIsNewEachTime(t *testing.T) {
	b := Bytes(great())
	first, _ := Read(b)
	first.Parties[0].Keys[0], first.Arcs[0].Amount, first.Leaders[0], first.Locks[0] = "x", 1, 1, "x"
	if again, e := Read(b); e != api.OK || !reflect.DeepEqual(again, great()) {
		t.Errorf("read again: %v, %d", again, e)
	}
}
