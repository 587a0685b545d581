package escrow

import (
	"cmp"
	"fmt"
	"math"
	"math/rand"
	"reflect"
	"slices"
	"testing"

	"handsel/api"
	"handsel/bank"
	"handsel/fixture"
)

// call is one that answers a book, in words and as a function.
type call struct {
	why string
	do  func(b api.Book) (api.Book, api.Errno)
}

func open(who string) call {
	return call{fmt.Sprintf("Open(%q)", who), func(b api.Book) (api.Book, api.Errno) { return bank.Open(b, who) }}
}

func give(who, asset string, amount int) call {
	return call{fmt.Sprintf("Give(%q, %q, %d)", who, asset, amount), func(b api.Book) (api.Book, api.Errno) { return bank.Give(b, who, asset, amount) }}
}

func hold(who string, s api.Spec, arc int) call {
	return call{fmt.Sprintf("Hold(%q, %q, %d)", who, s.ID, arc), func(b api.Book) (api.Book, api.Errno) { return Hold(b, who, s, arc) }}
}

func unlock(id string, arc int, k api.Hashkey) call {
	return call{fmt.Sprintf("Unlock(%q, %d, lock %d by %v)", id, arc, k.Lock, k.Path), func(b api.Book) (api.Book, api.Errno) { return Unlock(b, id, arc, k) }}
}

func redeem(who, id string, arc int) call {
	return call{fmt.Sprintf("Redeem(%q, %q, %d)", who, id, arc), func(b api.Book) (api.Book, api.Errno) { return Redeem(b, who, id, arc) }}
}

func refund(who, id string, arc int) call {
	return call{fmt.Sprintf("Refund(%q, %q, %d)", who, id, arc), func(b api.Book) (api.Book, api.Errno) { return Refund(b, who, id, arc) }}
}

// ok is the book that calls answer, one behind the other; none of them may be refused.
func ok(t *testing.T, b api.Book, calls ...call) api.Book {
	t.Helper()
	for _, c := range calls {
		var e api.Errno
		if b, e = c.do(b); e != api.OK {
			t.Fatalf("%s: %d", c.why, e)
		}
	}
	return b
}

// has is the book with other Funds.
func has(b api.Book, funds ...api.Fund) api.Book {
	b.Funds = funds
	return b
}

// turned is the book with one of its escrows otherwise.
func turned(b api.Book, i int, turn func(e *api.Escrow)) api.Book {
	b.Escrows = slices.Clone(b.Escrows)
	b.Escrows[i].Keys = slices.Clone(b.Escrows[i].Keys)
	turn(&b.Escrows[i])
	return b
}

func into(state int) func(e *api.Escrow) { return func(e *api.Escrow) { e.State = state } }

// must: the call answers that error and that book, and changes nothing of the book that is handed in.
func must(t *testing.T, b api.Book, c call, e api.Errno, want api.Book) {
	t.Helper()
	b = fixture.Roomy(b)
	was := fixture.Memory(b)
	got, err := c.do(b)
	if err != e {
		t.Errorf("%s: %d, want %d", c.why, err, e)
	}
	if !bank.Same(got, want) {
		t.Errorf("%s: the book is %s, want %s", c.why, told(got), told(want))
	}
	if !reflect.DeepEqual(fixture.Memory(b), was) {
		t.Errorf("%s: the book that was handed in is changed", c.why)
	}
}

// mustRefuse: with an error the book that is answered is the one that was handed in.
func mustRefuse(t *testing.T, b api.Book, c call, e api.Errno) {
	t.Helper()
	must(t, b, c, e, b)
}

// told is a book in few words.
func told(b api.Book) string {
	out := fmt.Sprintf("number %d, time %d, %v, %v", b.Number, b.Time, b.Accounts, b.Funds)
	for _, e := range b.Escrows {
		out += fmt.Sprintf(", %s %d in state %d", e.Spec.ID, e.Arc, e.State)
		for _, k := range e.Keys {
			out += fmt.Sprintf(" %d%v", k.Lock, k.Path)
		}
	}
	return out
}

func mustTotals(t *testing.T, why string, b api.Book, want map[string]int) {
	t.Helper()
	for asset, amount := range want {
		if got := bank.Total(b, asset); got != amount {
			t.Errorf("%s: the Total of %s is %d, want %d", why, asset, got, amount)
		}
	}
}

// heldBook is the market that holds the arcs of three that are on its ledger.
func heldBook(t *testing.T) api.Book {
	t.Helper()
	return ok(t, fixture.Market(), hold("ann", fixture.Three(), 0), hold("bob", fixture.Three(), 1), hold("cy", fixture.Three(), 2))
}

// opening are the calls that open both locks of arc 0 of three.
func opening() []call {
	return []call{unlock("three", 0, fixture.Key(fixture.Three(), 0, 1, 0)), unlock("three", 0, fixture.Key(fixture.Three(), 1, 1, 2))}
}

// P10.1: what is there is found, and nothing else.
func TestFind(t *testing.T) {
	b := ok(t, heldBook(t), hold("dee", fixture.Pair("pair", "dee", "eve", "gold", 8), 0))
	for i, x := range []struct {
		id  string
		arc int
	}{{"three", 0}, {"three", 1}, {"three", 2}, {"pair", 0}} {
		e, found := Find(b, x.id, x.arc)
		if !found || !reflect.DeepEqual(e, b.Escrows[i]) || e.Spec.ID != x.id || e.Arc != x.arc {
			t.Errorf("%s, %d: %v, %v", x.id, x.arc, found, e.Arc)
		}
	}
	for _, x := range []struct {
		id  string
		arc int
	}{{"three", 3}, {"three", -1}, {"three", math.MinInt}, {"three", math.MaxInt}, {"pair", 1}, {"pair", 2}, {"", 0}, {"Three", 0}, {"thre", 0}, {"threes", 0}, {fixture.Of('n', 17), 0}} {
		if e, found := Find(b, x.id, x.arc); found || !reflect.DeepEqual(e, api.Escrow{}) {
			t.Errorf("%q, %d: %v, %v", x.id, x.arc, found, e)
		}
	}
	if e, found := Find(bank.New(1), "three", 0); found || !reflect.DeepEqual(e, api.Escrow{}) {
		t.Error("in a book of nothing")
	}
}

// P10.1: an escrow that has ended is found still.
func TestFindEnded(t *testing.T) {
	b := ok(t, ok(t, heldBook(t), opening()...), redeem("eve", "three", 0))
	b = ok(t, fixture.At(b, 77), refund("bob", "three", 1))
	for arc, want := range []int{api.Redeemed, api.Refunded, api.Held} {
		if e, found := Find(b, "three", arc); !found || e.State != want || e.Arc != arc {
			t.Errorf("arc %d: %v, %d", arc, found, e.State)
		}
	}
}

func mustBeOpen(t *testing.T, b api.Book, want int) {
	t.Helper()
	e, found := Find(b, "three", 0)
	if n := Opened(e); !found || n != want {
		t.Errorf("%v, %d are open, want %d", found, n, want)
	}
}

// P10.1: none, some, all locks are open.
func TestOpened(t *testing.T) {
	calls := opening()
	b := heldBook(t)
	mustBeOpen(t, b, 0)
	mustBeOpen(t, ok(t, b, calls[0]), 1)
	mustBeOpen(t, ok(t, b, calls[1]), 1)
	mustBeOpen(t, ok(t, b, calls...), 2)
	mustBeOpen(t, ok(t, ok(t, b, calls...), redeem("ann", "three", 0)), 2)
	mustBeOpen(t, ok(t, fixture.At(ok(t, b, calls[1]), 77), refund("ann", "three", 0)), 1)
	if n := Opened(api.Escrow{}); n != 0 {
		t.Errorf("of no escrow %d are open", n)
	}
	shut := api.Hashkey{Lock: 1, Secret: "open"}
	open := api.Hashkey{Path: []int{0}}
	if n := Opened(api.Escrow{State: api.Held, Keys: []api.Hashkey{shut, open, {Path: []int{}}}}); n != 1 {
		t.Errorf("of three Keys, one of which has a Path, %d are open", n)
	}
}

// fresh is an escrow of which nothing is open.
func fresh(s api.Spec, arc int) api.Escrow {
	return api.Escrow{Spec: s, Arc: arc, State: api.Held, Keys: make([]api.Hashkey, len(s.Locks))}
}

// P10.2: the amount goes from the account to an escrow, behind those that there are.
func TestHold(t *testing.T) {
	s, b := fixture.Three(), fixture.Market()
	want := has(b, fixture.Fund("ann", "gold", 7), fixture.Fund("bob", "salt", 20), fixture.Fund("cy", "gold", 1), fixture.Fund("cy", "wool", 7), fixture.Fund("dee", "gold", 90), fixture.Fund("eve", "salt", 4))
	want.Escrows = []api.Escrow{fresh(s, 0)}
	must(t, b, hold("ann", s, 0), api.OK, want)
	b = want
	// All that there is of it: no Fund is left.
	want = has(b, fixture.Fund("ann", "gold", 7), fixture.Fund("bob", "salt", 20), fixture.Fund("cy", "gold", 1), fixture.Fund("dee", "gold", 90), fixture.Fund("eve", "salt", 4))
	want.Escrows = []api.Escrow{fresh(s, 0), fresh(s, 2)}
	must(t, b, hold("cy", s, 2), api.OK, want)
	b = want
	other := fixture.Pair("pair", "ann", "cy", "gold", 7)
	want = has(b, fixture.Fund("bob", "salt", 20), fixture.Fund("cy", "gold", 1), fixture.Fund("dee", "gold", 90), fixture.Fund("eve", "salt", 4))
	want.Escrows = []api.Escrow{fresh(s, 0), fresh(s, 2), fresh(other, 0)}
	must(t, b, hold("ann", other, 0), api.OK, want)
	mustTotals(t, "held", want, map[string]int{"gold": 101, "salt": 24, "wool": 7})
}

// P10.2: of the arcs each one is held on its own ledger.
func TestHoldLedger(t *testing.T) {
	for number, want := range []api.Errno{api.ErrArg, api.ErrArg, api.OK, api.ErrArg} {
		b := bank.New(number)
		for _, account := range fixture.Accounts() {
			b = ok(t, b, open(account), give(account, "gold", 4))
		}
		if _, e := Hold(b, "bob", fixture.Three(), 3); e != want {
			t.Errorf("on ledger %d: %d, want %d", number, e, want)
		}
	}
}

// P10.2: ahead of Start and n times Delta an arc is held, at it and behind it not.
func TestHoldTime(t *testing.T) {
	long := fixture.Three()
	long.Start, long.Delta = 1<<40, 1<<20
	early := fixture.Three()
	early.Start, early.Delta = 0, 1
	for _, x := range []struct {
		s    api.Spec
		who  string
		time int
	}{{fixture.Three(), "ann", 50}, {fixture.Pair("pair", "dee", "eve", "gold", 1), "dee", 37}, {long, "ann", 1<<40 + 3<<20}, {early, "ann", 3}} {
		for _, time := range []int{math.MinInt, -1, 0, x.s.Start, x.time - 2, x.time - 1} {
			if _, e := Hold(fixture.At(fixture.Market(), time), x.who, x.s, 0); e != api.OK {
				t.Errorf("%s at %d: %d", x.s.ID, time, e)
			}
		}
		for _, time := range []int{x.time, x.time + 1, x.time + 1<<20, math.MaxInt} {
			mustRefuse(t, fixture.At(fixture.Market(), time), hold(x.who, x.s, 0), api.ErrLate)
		}
	}
}

// P10.2: swaps that graph's Valid refuses.
func TestHoldSpec(t *testing.T) {
	for i, turn := range []func(s *api.Spec){
		func(s *api.Spec) { *s = api.Spec{} },
		func(s *api.Spec) { s.ID = "" },
		func(s *api.Spec) { s.Delta = 0 },
		func(s *api.Spec) { s.Start = -1 },
		func(s *api.Spec) { s.Locks = s.Locks[:1] },
		func(s *api.Spec) { s.Parties[2].Keys = nil },
		func(s *api.Spec) { s.Parties[2].Account = "ann" },
		func(s *api.Spec) { s.Arcs[1].Amount = 0 },
		// cy gives nobody anything: from it nobody is reached.
		func(s *api.Spec) { s.Arcs = slices.Delete(s.Arcs, 2, 3) },
		// Without cy, who leads, arcs go from ann to bob and back.
		func(s *api.Spec) {
			s.Leaders, s.Locks = s.Leaders[1:], s.Locks[1:]
			for v := range s.Parties {
				s.Parties[v].Keys = s.Parties[v].Keys[1:]
			}
		},
	} {
		s := fixture.Three()
		turn(&s)
		for arc := -1; arc < 4; arc++ {
			if got, e := Hold(fixture.Market(), "ann", s, arc); e != api.ErrSpec || !bank.Same(got, fixture.Market()) {
				t.Errorf("change %d, arc %d: %d", i, arc, e)
			}
		}
	}
}

// P10.2: as many escrows as there may be, whatever their state, and one more.
func TestHoldFull(t *testing.T) {
	b := fixture.Market()
	for i := range 12 {
		b = ok(t, fixture.At(b, 0), hold("dee", fixture.Pair(fixture.Of('i', i+1), "dee", "eve", "gold", 1), 0))
		if i%2 == 0 {
			b = ok(t, fixture.At(b, 51), refund("dee", fixture.Of('i', i+1), 0))
		}
	}
	if len(b.Escrows) != 12 {
		t.Fatalf("%d escrows", len(b.Escrows))
	}
	mustRefuse(t, fixture.At(b, 0), hold("dee", fixture.Pair("more", "dee", "eve", "gold", 1), 0), api.ErrFull)
	mustRefuse(t, fixture.At(b, 0), hold("ann", fixture.Three(), 0), api.ErrFull)
	b.Escrows = b.Escrows[:11]
	ok(t, fixture.At(b, 0), hold("ann", fixture.Three(), 0))
}

// P10.2: what is held once, and has ended, is not held again.
func TestHoldAgain(t *testing.T) {
	s, b := fixture.Three(), heldBook(t)
	another := fixture.Pair("three", "ann", "bob", "gold", 1)
	for _, x := range []api.Book{b, ok(t, ok(t, b, opening()...), redeem("bob", "three", 0)), fixture.At(ok(t, fixture.At(b, 77), refund("ann", "three", 0)), 0)} {
		mustRefuse(t, x, hold("ann", s, 0), api.ErrThere)
		mustRefuse(t, x, hold("ann", another, 0), api.ErrThere)
		mustRefuse(t, x, hold("bob", another, 1), api.ErrThere)
	}
	// An arc of which there is no escrow: the others of the same swap do not stand in its way.
	b = ok(t, fixture.Market(), hold("ann", s, 0))
	ok(t, b, hold("bob", another, 1))
	ok(t, b, hold("ann", fixture.Pair("thref", "ann", "bob", "gold", 1), 0))
}

// faults of a call of Hold: what is wrong, in the order in which the chapter names it.
type faults struct {
	spec         bool
	arg          int // 1: arc -1; 2: as many as there are arcs; 3: another ledger; 4: another one than the From's
	there        bool
	from, to     bool // no such account
	late, full   bool
	funds, swept bool // swept: nothing at all is left
}

func (f faults) want() api.Errno {
	switch {
	case f.spec:
		return api.ErrSpec
	case f.arg > 0:
		return api.ErrArg
	case f.there:
		return api.ErrThere
	case f.from || f.to:
		return api.ErrNone
	case f.late:
		return api.ErrLate
	case f.full:
		return api.ErrFull
	case f.funds || f.swept:
		return api.ErrFunds
	}
	return api.OK
}

// book is one that a call with these faults is asked of; fillers are swaps of dee and eve.
func (f faults) book(t *testing.T, same api.Spec, fillers []api.Spec) api.Book {
	t.Helper()
	list := slices.DeleteFunc(fixture.Accounts(), func(account string) bool { return f.from && account == "ann" || f.to && account == "bob" })
	b := fixture.Stocked(list, fixture.Fund("dee", "gold", 90), fixture.Fund("bob", "gold", 9))
	if !f.from && !f.swept {
		b = ok(t, b, give("ann", "gold", 3))
	}
	if f.there {
		b = ok(t, b, hold("dee", same, 0))
	}
	for _, s := range fillers {
		if f.full && len(b.Escrows) < 12 {
			b = ok(t, b, hold("dee", s, 0))
		}
	}
	if f.late {
		b.Time = 50
	}
	return b
}

// call is Hold of arc 0 of three, by ann, but for the faults.
func (f faults) call() call {
	s, who, arc := fixture.Three(), "ann", 0
	if f.funds {
		s.Arcs[0].Amount = 4
	}
	if f.spec {
		s.Locks[1] = "short"
	}
	switch f.arg {
	case 1:
		arc = -1
	case 2:
		arc = 4
	case 3:
		s.Arcs[0].Ledger = 0
	case 4:
		who = "bob"
	}
	return hold(who, s, arc)
}

// P10.2: each error by itself, and each set of them: the first one is answered.
func TestHoldErrors(t *testing.T) {
	same := fixture.Pair("three", "dee", "eve", "gold", 1)
	var fillers []api.Spec
	for i := range 12 {
		fillers = append(fillers, fixture.Pair("filler"+string(rune('a'+i)), "dee", "eve", "gold", 1))
	}
	seen := map[api.Errno]int{}
	for bits := range 1 << 8 {
		for arg := range 5 {
			bit := func(i int) bool { return bits>>i&1 == 1 }
			f := faults{spec: bit(0), arg: arg, there: bit(1), from: bit(2), to: bit(3), late: bit(4), full: bit(5), funds: bit(6), swept: bit(7)}
			b, c := f.book(t, same, fillers), f.call()
			got, e := c.do(b)
			if e != f.want() {
				t.Errorf("%+v: %d, want %d", f, e, f.want())
			}
			if e != api.OK && !bank.Same(got, b) {
				t.Errorf("%+v: the book is changed", f)
			}
			seen[e]++
		}
	}
	for _, e := range []api.Errno{api.OK, api.ErrSpec, api.ErrArg, api.ErrThere, api.ErrNone, api.ErrLate, api.ErrFull, api.ErrFunds} {
		if seen[e] == 0 {
			t.Errorf("error %d is never answered", e)
		}
	}
}

// P10.2: who is the From's Account, to the letter, and no other.
func TestHoldWho(t *testing.T) {
	for _, who := range []string{"", "a", "an", "anna", "Ann", "bob", "cy", "dee", "zed", fixture.Of('a', 17), "ann\x00"} {
		mustRefuse(t, fixture.Market(), hold(who, fixture.Three(), 0), api.ErrArg)
	}
	for _, arc := range []int{-1, -2, 4, 5, 11, 12, 1 << 32, -1 << 32, math.MinInt, math.MaxInt} {
		mustRefuse(t, fixture.Market(), hold("ann", fixture.Three(), arc), api.ErrArg)
	}
}

// P10.2, R3: the escrow's spec lies in new memory, and the one that was handed in stays.
func TestHoldNewMemory(t *testing.T) {
	s := fixture.Three()
	was := fixture.SpecMemory(s)
	b := ok(t, fixture.Market(), hold("ann", s, 0), hold("bob", s, 1))
	if !reflect.DeepEqual(fixture.SpecMemory(s), was) {
		t.Error("the spec that was handed in is changed")
	}
	first := fixture.Memory(b)
	s.Parties[0].Account, s.Parties[1].Keys[0], s.Arcs[1].Amount, s.Leaders[0], s.Locks[1] = "gone", "gone", 99, 99, "gone"
	s.Parties = append(s.Parties[:1], s.Parties[2:]...)
	if !reflect.DeepEqual(fixture.Memory(b), first) {
		t.Error("the escrow's spec shares a list with the one that was handed in")
	}
}

// P10.3: each lock is opened by its key, and each escrow for itself.
func TestUnlock(t *testing.T) {
	s, b := fixture.Three(), heldBook(t)
	for _, x := range []struct {
		place, arc int
		key        api.Hashkey
	}{
		{0, 0, fixture.Key(s, 0, 1, 0)}, {0, 0, fixture.Key(s, 0, 1, 2, 0)}, {0, 0, fixture.Key(s, 1, 1, 2)},
		{1, 1, fixture.Key(s, 0, 2, 0)}, {1, 1, fixture.Key(s, 1, 2)},
		{2, 2, fixture.Key(s, 0, 0)}, {2, 2, fixture.Key(s, 1, 0, 1, 2)},
	} {
		must(t, b, unlock("three", x.arc, x.key), api.OK, turned(b, x.place, func(e *api.Escrow) { e.Keys[x.key.Lock] = x.key }))
	}
	one, two := fixture.Key(s, 1, 1, 2), fixture.Key(s, 0, 1, 2, 0)
	half := ok(t, b, unlock("three", 0, one))
	must(t, half, unlock("three", 0, two), api.OK, turned(b, 0, func(e *api.Escrow) { e.Keys = []api.Hashkey{two, one} }))
}

// P10.3: keys that hashkey's Check refuses.
func TestUnlockKey(t *testing.T) {
	s, b := fixture.Three(), heldBook(t)
	for i, turn := range []func(k *api.Hashkey){
		func(k *api.Hashkey) { *k = api.Hashkey{} },
		func(k *api.Hashkey) { k.Lock = 1 },
		func(k *api.Hashkey) { k.Lock = 2 },
		func(k *api.Hashkey) { k.Lock = -1 },
		func(k *api.Hashkey) { k.Lock = math.MaxInt },
		func(k *api.Hashkey) { k.Secret = "shut" },
		func(k *api.Hashkey) { k.Path = k.Path[1:] },
		func(k *api.Hashkey) { k.Path = nil },
		func(k *api.Hashkey) { k.Path[0] = 2 },
		func(k *api.Hashkey) { k.Path[2] = -1 },
		func(k *api.Hashkey) { k.Sigs = k.Sigs[1:] },
		func(k *api.Hashkey) { k.Sigs = nil },
		func(k *api.Hashkey) { slices.Reverse(k.Sigs) },
		func(k *api.Hashkey) { k.Sigs[2] = fixture.Of('s', 512) },
		func(k *api.Hashkey) { *k = fixture.Key(s, 0, 0) },
		func(k *api.Hashkey) { *k = fixture.Key(s, 0, 2, 0) },
		func(k *api.Hashkey) { *k = fixture.Key(s, 1, 1, 0, 1, 2) },
	} {
		k := fixture.Key(s, 0, 1, 2, 0)
		turn(&k)
		if got, e := Unlock(b, "three", 0, k); e != api.ErrKey || !bank.Same(got, b) {
			t.Errorf("change %d: %d", i, e)
		}
	}
}

// P10.3: at the Deadline of so many parties as the Path has a lock opens, behind it not.
func TestUnlockTime(t *testing.T) {
	s, b := fixture.Three(), heldBook(t)
	for _, x := range []struct {
		arc, last int
		key       api.Hashkey
	}{
		{2, 50, fixture.Key(s, 0, 0)}, {1, 50, fixture.Key(s, 1, 2)},
		{1, 63, fixture.Key(s, 0, 2, 0)}, {0, 63, fixture.Key(s, 0, 1, 0)}, {0, 63, fixture.Key(s, 1, 1, 2)},
		{0, 76, fixture.Key(s, 0, 1, 2, 0)}, {2, 76, fixture.Key(s, 1, 0, 1, 2)},
	} {
		for _, time := range []int{math.MinInt, 0, 11, x.last - 1, x.last} {
			ok(t, fixture.At(b, time), unlock("three", x.arc, x.key))
		}
		for _, time := range []int{x.last + 1, x.last + 13, 1 << 40, math.MaxInt} {
			mustRefuse(t, fixture.At(b, time), unlock("three", x.arc, x.key), api.ErrLate)
		}
	}
}

// P10.3: no such escrow, whatever else is wrong.
func TestUnlockNone(t *testing.T) {
	k := fixture.Key(fixture.Three(), 0, 1, 0)
	for _, b := range []api.Book{fixture.Market(), heldBook(t), fixture.At(heldBook(t), 1000)} {
		for _, bad := range []api.Hashkey{k, {}} {
			mustRefuse(t, b, unlock("Three", 0, bad), api.ErrNone)
			mustRefuse(t, b, unlock("", 0, bad), api.ErrNone)
			mustRefuse(t, b, unlock("three", 3, bad), api.ErrNone)
			mustRefuse(t, b, unlock("three", -1, bad), api.ErrNone)
		}
	}
}

// P10.3: each error by itself, and each set of them: the first one is answered.
func TestUnlockErrors(t *testing.T) {
	s := fixture.Three()
	good, bad := fixture.Key(s, 0, 1, 0), fixture.Key(s, 0, 0)
	for bits := range 1 << 3 {
		wrong, there, late := bits&1 > 0, bits&2 > 0, bits&4 > 0
		b := heldBook(t)
		if there {
			b = ok(t, b, opening()[0])
		}
		k, want := good, api.OK
		time := 63
		if late {
			time, want = 64, api.ErrLate
		}
		if there {
			want = api.ErrThere
		}
		if wrong {
			k, want = bad, api.ErrKey
		}
		if c := unlock("three", 0, k); want != api.OK {
			mustRefuse(t, fixture.At(b, time), c, want)
		} else {
			ok(t, fixture.At(b, time), c)
		}
		for _, state := range []int{api.Redeemed, api.Refunded} {
			mustRefuse(t, fixture.At(ended(t, b, state), time), unlock("three", 0, k), api.ErrState)
		}
	}
}

// ended is a book in which arc 0 of three is redeemed, or refunded, with as many locks open as there were if it can be.
func ended(t *testing.T, b api.Book, state int) api.Book {
	t.Helper()
	if state == api.Refunded {
		return ok(t, fixture.At(b, 77), refund("ann", "three", 0))
	}
	for lock, c := range opening() {
		if e, _ := Find(b, "three", 0); len(e.Keys[lock].Path) == 0 {
			b = ok(t, b, c)
		}
	}
	return ok(t, b, redeem("bob", "three", 0))
}

// P10.3: a lock that is open is open for all paths; the other one may be opened still.
func TestUnlockThere(t *testing.T) {
	s := fixture.Three()
	b := ok(t, heldBook(t), unlock("three", 0, fixture.Key(s, 0, 1, 2, 0)))
	for _, time := range []int{0, 63, 64, 76, 77, 1000} {
		mustRefuse(t, fixture.At(b, time), unlock("three", 0, fixture.Key(s, 0, 1, 2, 0)), api.ErrThere)
		mustRefuse(t, fixture.At(b, time), unlock("three", 0, fixture.Key(s, 0, 1, 0)), api.ErrThere)
	}
	ok(t, fixture.At(b, 63), unlock("three", 0, fixture.Key(s, 1, 1, 2)))
	ok(t, fixture.At(b, 63), unlock("three", 1, fixture.Key(s, 0, 2, 0)))
}

// R3: the key that opened a lock lies in new memory, and the one that was handed in stays.
func TestUnlockNewMemory(t *testing.T) {
	k := fixture.Key(fixture.Three(), 0, 1, 2, 0)
	was := fixture.KeyMemory(k)
	b := ok(t, heldBook(t), unlock("three", 0, k))
	if !reflect.DeepEqual(fixture.KeyMemory(k), was) {
		t.Error("the key that was handed in is changed")
	}
	first := fixture.Memory(b)
	k.Path[1], k.Sigs[2] = 99, "gone"
	if !reflect.DeepEqual(fixture.Memory(b), first) {
		t.Error("the escrow's key shares a list with the one that was handed in")
	}
}

// P10.4: the amount goes to the To's account, whoever asks, and whenever.
func TestRedeem(t *testing.T) {
	b := ok(t, heldBook(t), opening()...)
	for _, who := range []string{"ann", "bob", "cy", "dee", "zed", "", fixture.Of('n', 40)} {
		for _, time := range []int{math.MinInt, 0, 50, 76, 77, 1 << 40, math.MaxInt} {
			late := fixture.At(b, time)
			want := has(turned(late, 0, into(api.Redeemed)),
				fixture.Fund("ann", "gold", 7), fixture.Fund("bob", "gold", 3), fixture.Fund("bob", "salt", 15), fixture.Fund("cy", "gold", 1), fixture.Fund("dee", "gold", 90), fixture.Fund("eve", "salt", 4))
			must(t, late, redeem(who, "three", 0), api.OK, want)
		}
	}
	// bob has gold already: it is that Fund that grows.
	b = ok(t, b, give("bob", "gold", 4), give("bob", "zinc", 1))
	must(t, b, redeem("ann", "three", 0), api.OK, has(turned(b, 0, into(api.Redeemed)),
		fixture.Fund("ann", "gold", 7), fixture.Fund("bob", "gold", 7), fixture.Fund("bob", "salt", 15), fixture.Fund("bob", "zinc", 1), fixture.Fund("cy", "gold", 1), fixture.Fund("dee", "gold", 90), fixture.Fund("eve", "salt", 4)))
}

// P10.4: in whichever place among the Funds it comes to stand.
func TestRedeemPlaces(t *testing.T) {
	for _, x := range []struct {
		to, asset string
		want      []api.Fund
	}{
		{"aaa", "gold", []api.Fund{fixture.Fund("aaa", "gold", 2), fixture.Fund("ann", "gold", 1), fixture.Fund("ann", "salt", 1), fixture.Fund("mid", "gold", 1), fixture.Fund("mid", "salt", 1)}},
		{"mid", "gold", []api.Fund{fixture.Fund("ann", "gold", 1), fixture.Fund("ann", "salt", 1), fixture.Fund("mid", "gold", 3), fixture.Fund("mid", "salt", 1)}},
		{"mid", "salt", []api.Fund{fixture.Fund("ann", "gold", 1), fixture.Fund("ann", "salt", 1), fixture.Fund("mid", "gold", 1), fixture.Fund("mid", "salt", 3)}},
		{"mid", "zinc", []api.Fund{fixture.Fund("ann", "gold", 1), fixture.Fund("ann", "salt", 1), fixture.Fund("mid", "gold", 1), fixture.Fund("mid", "salt", 1), fixture.Fund("mid", "zinc", 2)}},
		{"mid", "iron", []api.Fund{fixture.Fund("ann", "gold", 1), fixture.Fund("ann", "salt", 1), fixture.Fund("mid", "gold", 1), fixture.Fund("mid", "iron", 2), fixture.Fund("mid", "salt", 1)}},
		{"\xff", "gold", []api.Fund{fixture.Fund("ann", "gold", 1), fixture.Fund("ann", "salt", 1), fixture.Fund("mid", "gold", 1), fixture.Fund("mid", "salt", 1), fixture.Fund("\xff", "gold", 2)}},
	} {
		b := fixture.Stocked([]string{"ann", "mid", "aaa", "\xff"}, fixture.Fund("ann", "gold", 1), fixture.Fund("ann", "salt", 1), fixture.Fund("mid", "gold", 1), fixture.Fund("mid", "salt", 1))
		b = ok(t, b, give("ann", x.asset, 2))
		s := fixture.Pair("pair", "ann", x.to, x.asset, 2)
		b = ok(t, b, hold("ann", s, 0), unlock("pair", 0, fixture.Key(s, 0, 1)))
		must(t, b, redeem("", "pair", 0), api.OK, has(turned(b, 0, into(api.Redeemed)), x.want...))
	}
}

// P10.4: each error of Redeem by itself, and each set of them: the first one is answered.
func TestRedeemErrors(t *testing.T) {
	b, calls := heldBook(t), opening()
	for _, time := range []int{0, 63, 76, 77} {
		for _, shut := range []api.Book{b, ok(t, b, calls[0]), ok(t, b, calls[1])} {
			for _, who := range []string{"ann", "bob", "zed", ""} {
				mustRefuse(t, fixture.At(shut, time), redeem(who, "three", 0), api.ErrEarly)
				mustRefuse(t, fixture.At(shut, time), redeem(who, "three", 3), api.ErrNone)
				mustRefuse(t, fixture.At(shut, time), redeem(who, "three", -1), api.ErrNone)
				mustRefuse(t, fixture.At(shut, time), redeem(who, "there", 0), api.ErrNone)
				mustRefuse(t, ended(t, shut, api.Refunded), redeem(who, "three", 0), api.ErrState)
				mustRefuse(t, ended(t, shut, api.Redeemed), redeem(who, "three", 0), api.ErrState)
			}
		}
	}
	// The locks of another arc play no part.
	s := fixture.Three()
	mustRefuse(t, ok(t, b, calls...), redeem("bob", "three", 1), api.ErrEarly)
	ok(t, b, unlock("three", 1, fixture.Key(s, 1, 2)), unlock("three", 1, fixture.Key(s, 0, 2, 0)), redeem("bob", "three", 1))
}

// P10.4: the amount goes back to the From's account, behind Last, while a lock is not open.
func TestRefund(t *testing.T) {
	b, calls := heldBook(t), opening()
	for _, shut := range []api.Book{b, ok(t, b, calls[0]), ok(t, b, calls[1])} {
		for _, time := range []int{math.MinInt, 0, 50, 63, 75, 76} {
			mustRefuse(t, fixture.At(shut, time), refund("ann", "three", 0), api.ErrEarly)
		}
		for _, time := range []int{77, 78, 1 << 40, math.MaxInt} {
			late := fixture.At(shut, time)
			must(t, late, refund("ann", "three", 0), api.OK, has(turned(late, 0, into(api.Refunded)),
				fixture.Fund("ann", "gold", 10), fixture.Fund("bob", "salt", 15), fixture.Fund("cy", "gold", 1), fixture.Fund("dee", "gold", 90), fixture.Fund("eve", "salt", 4)))
		}
	}
	// cy held all its wool: the Fund is there again.
	late := fixture.At(b, 77)
	must(t, late, refund("cy", "three", 2), api.OK, has(turned(late, 2, into(api.Refunded)),
		fixture.Fund("ann", "gold", 7), fixture.Fund("bob", "salt", 15), fixture.Fund("cy", "gold", 1), fixture.Fund("cy", "wool", 7), fixture.Fund("dee", "gold", 90), fixture.Fund("eve", "salt", 4)))
	s := fixture.Pair("pair", "dee", "eve", "gold", 90)
	b = ok(t, fixture.Market(), hold("dee", s, 0))
	mustRefuse(t, fixture.At(b, 50), refund("dee", "pair", 0), api.ErrEarly)
	ok(t, fixture.At(b, 51), refund("dee", "pair", 0))
}

// P10.4: each error of Refund by itself, and each set of them: the first one is answered.
func TestRefundErrors(t *testing.T) {
	calls := opening()
	for bits := range 1 << 3 {
		none, other, early := bits&1 > 0, bits&2 > 0, bits&4 > 0
		for _, state := range []int{api.Held, api.Redeemed, api.Refunded} {
			for open := range 3 {
				b := ok(t, heldBook(t), calls[:open]...)
				switch {
				case state == api.Refunded && open == 2:
					continue // there is none: all open is not refunded
				case state != api.Held:
					b = ended(t, b, state)
				}
				b.Time = 77
				want := api.OK
				if early {
					b.Time, want = 76, api.ErrEarly
				}
				if open == 2 {
					want = api.ErrKey
				}
				if state != api.Held {
					want = api.ErrState
				}
				who, id := "ann", "three"
				if other {
					who, want = "bob", api.ErrArg
				}
				if none {
					id, want = "four", api.ErrNone
				}
				if c := refund(who, id, 0); want != api.OK {
					mustRefuse(t, b, c, want)
				} else {
					ok(t, b, c)
				}
			}
		}
	}
	b := fixture.At(heldBook(t), 77)
	for _, who := range []string{"", "bob", "cy", "dee", "an", "anna", "Ann", "zed", fixture.Of('a', 17)} {
		mustRefuse(t, b, refund(who, "three", 0), api.ErrArg)
	}
	for _, arc := range []int{-1, 3, 4, math.MinInt, math.MaxInt} {
		mustRefuse(t, b, refund("ann", "three", arc), api.ErrNone)
	}
}

// crowded is a book of as many accounts and assets as there may be, and as much of each.
func crowded(t *testing.T) api.Book {
	t.Helper()
	b := bank.New(1)
	for i := range 12 {
		b = ok(t, b, open(string(rune('a'+i))))
	}
	for i, asset := range []string{"gold", "iron", "salt", "wool"} {
		b = ok(t, b, give(string(rune('a'+i)), asset, 1<<50))
	}
	return b
}

// P10.4: neither Redeem nor Refund fails for want of room.
func TestEndsWithoutRoom(t *testing.T) {
	for _, amount := range []int{1, 1 << 49, 1<<50 - 1, 1 << 50} {
		s := fixture.Pair("pair", "a", "l", "gold", amount)
		b := ok(t, crowded(t), hold("a", s, 0))
		for i := range 11 {
			b = ok(t, b, hold("b", fixture.Pair("filler"+string(rune('a'+i)), "b", "c", "iron", 1), 0))
		}
		for _, asset := range []string{"gold", "iron", "salt", "wool"} {
			if _, e := bank.Give(b, "l", asset, 1); e != api.ErrBig {
				t.Fatalf("there is room for %s: %d", asset, e)
			}
		}
		totals := map[string]int{"gold": 1 << 50, "iron": 1 << 50, "salt": 1 << 50, "wool": 1 << 50}
		redeemed := ok(t, b, unlock("pair", 0, fixture.Key(s, 0, 1)), redeem("zed", "pair", 0))
		if n, e := bank.Balance(redeemed, "l", "gold"); n != amount || e != api.OK {
			t.Errorf("l has %d, %d, want %d", n, e, amount)
		}
		mustTotals(t, "redeemed", redeemed, totals)
		refunded := ok(t, fixture.At(b, 51), refund("a", "pair", 0))
		if n, e := bank.Balance(refunded, "a", "gold"); n != 1<<50 || e != api.OK {
			t.Errorf("a has %d, %d", n, e)
		}
		mustTotals(t, "refunded", refunded, totals)
	}
}

// P10.4: nor do they in a book that was read from bytes, which may tell of more than there may be.
func TestEndsInBooksOfMore(t *testing.T) {
	s := fixture.Pair("pair", "ann", "bob", "gold", 5)
	b := ok(t, fixture.Market(), hold("ann", s, 0))
	b.Funds = slices.Concat([]api.Fund{fixture.Fund("aaa", "iron", 1<<50), fixture.Fund("aaa", "lead", 1<<51), fixture.Fund("aaa", "tin", 3), fixture.Fund("aaa", "zinc", 3)}, b.Funds,
		[]api.Fund{fixture.Fund("fay", "gold", 1<<50)})
	if n, e := bank.Balance(ok(t, b, unlock("pair", 0, fixture.Key(s, 0, 1)), redeem("", "pair", 0)), "bob", "gold"); n != 5 || e != api.OK {
		t.Errorf("redeemed: %d, %d", n, e)
	}
	if n, e := bank.Balance(ok(t, fixture.At(b, 51), refund("ann", "pair", 0)), "ann", "gold"); n != 10 || e != api.OK {
		t.Errorf("refunded: %d, %d", n, e)
	}
}

// R1: nothing panics, whatever an escrow tells that was read from bytes.
func TestOddEscrows(t *testing.T) {
	s := fixture.Three()
	k := fixture.Key(s, 0, 1, 0)
	b := heldBook(t)
	odd := []func(e *api.Escrow){
		func(e *api.Escrow) { e.Arc = -1 },
		func(e *api.Escrow) { e.Arc = 4 },
		func(e *api.Escrow) { e.Arc = math.MaxInt },
		func(e *api.Escrow) { e.State = -1 },
		func(e *api.Escrow) { e.State = api.None },
		func(e *api.Escrow) { e.State = 4 },
		func(e *api.Escrow) { e.Keys = nil },
		func(e *api.Escrow) { e.Keys = e.Keys[:1] },
		func(e *api.Escrow) { e.Keys = append(e.Keys, k, k) },
		func(e *api.Escrow) { e.Keys = []api.Hashkey{{}, k, k} },
		func(e *api.Escrow) { e.Spec.Parties = nil },
		func(e *api.Escrow) { e.Spec.Arcs = slices.Clone(e.Spec.Arcs); e.Spec.Arcs[0].To = 77 },
		func(e *api.Escrow) { e.Spec = api.Spec{ID: "three"} },
		func(e *api.Escrow) { *e = api.Escrow{} },
	}
	for _, turn := range odd {
		x := turned(b, 0, turn)
		for _, time := range []int{0, 77} {
			for _, arc := range []int{-1, 0, 4, math.MaxInt} {
				for _, id := range []string{"three", ""} {
					for _, c := range []call{unlock(id, arc, k), unlock(id, arc, api.Hashkey{}), redeem("bob", id, arc), refund("ann", id, arc), hold("ann", s, arc)} {
						c.do(fixture.At(x, time))
					}
					e, _ := Find(x, id, arc)
					Opened(e)
				}
			}
		}
	}
	// Too few Keys, or too many: each lock asks for its own.
	few := turned(b, 0, func(e *api.Escrow) { e.Keys = nil })
	mustRefuse(t, few, redeem("bob", "three", 0), api.ErrEarly)
	must(t, few, unlock("three", 0, k), api.OK, turned(b, 0, func(e *api.Escrow) { e.Keys[0] = k }))
	mustRefuse(t, turned(b, 0, func(e *api.Escrow) { e.Keys = []api.Hashkey{{}, k, k} }), redeem("bob", "three", 0), api.ErrEarly)
	// Of an arc that there is not nothing is held, and nobody is its From: nothing is paid.
	none := turned(ok(t, b, opening()...), 0, func(e *api.Escrow) { e.Arc = 4 })
	must(t, none, redeem("bob", "three", 4), api.OK, turned(none, 0, into(api.Redeemed)))
	mustRefuse(t, none, refund("ann", "three", 4), api.ErrArg)
	// Of a state that there is not there is no step.
	for _, state := range []int{math.MinInt, -1, 0, 4, 1 << 32, 1<<32 + 1, math.MaxInt} {
		x := fixture.At(turned(b, 0, into(state)), 77)
		mustRefuse(t, x, unlock("three", 0, k), api.ErrState)
		mustRefuse(t, x, redeem("bob", "three", 0), api.ErrState)
		mustRefuse(t, x, refund("ann", "three", 0), api.ErrState)
		mustRefuse(t, fixture.At(x, 0), hold("ann", s, 0), api.ErrThere)
	}
}

// The states are api's, and none but held is left by a step to an end.
func TestStates(t *testing.T) {
	if none != api.None || held != api.Held || redeemed != api.Redeemed || refunded != api.Refunded {
		t.Error("the numbers are not api's")
	}
	for s := state(-2); s < 7; s++ {
		for i, by := range []func(state) (state, bool){state.unlock, state.redeem, state.refund} {
			if next, may := by(s); may != (s == held) || next != []state{held, redeemed, refunded}[i] {
				t.Errorf("step %d of %d: %d, %v", i, s, next, may)
			}
		}
		if next, may := s.hold(); may != (s == none) || next != held {
			t.Errorf("hold of %d: %d, %v", s, next, may)
		}
	}
}

// P10.5, R3: books that are made of one book in turn do not write into one another.
func TestBooksOfOneBook(t *testing.T) {
	s := fixture.Three()
	other := fixture.Pair("pair", "dee", "eve", "gold", 1)
	calls := slices.Concat(opening(), []call{
		hold("ann", s, 0), hold("bob", s, 1), hold("dee", other, 0), hold("dee", fixture.Pair("more", "dee", "ann", "gold", 2), 0),
		unlock("three", 1, fixture.Key(s, 1, 2)), unlock("three", 1, fixture.Key(s, 0, 2, 0)), unlock("pair", 0, fixture.Key(other, 0, 1)),
		redeem("bob", "three", 0), redeem("bob", "three", 1), redeem("eve", "pair", 0), refund("dee", "pair", 0), refund("ann", "three", 0), refund("bob", "three", 1),
	})
	books := []api.Book{fixture.Market(), fixture.Roomy(fixture.Market()), heldBook(t), fixture.Roomy(heldBook(t)), fixture.At(fixture.Roomy(heldBook(t)), 77)}
	var were []api.Book
	for _, b := range books {
		were = append(were, fixture.Memory(b))
	}
	for i := 0; i < len(books) && len(books) < 400; i++ {
		for _, c := range calls {
			if next, e := c.do(books[i]); e == api.OK {
				books, were = append(books, next), append(were, fixture.Memory(next))
			}
		}
	}
	for i := range books {
		if !reflect.DeepEqual(fixture.Memory(books[i]), were[i]) {
			t.Fatalf("book %d of %d is changed", i, len(books))
		}
	}
}

// shadow is a book of another make: what each account has of each asset, and what each escrow is.
type shadow struct {
	has     map[[2]string]int
	escrows map[where]*hidden
	time    int
}

type where struct {
	id  string
	arc int
}

type hidden struct {
	spec  api.Spec
	arc   api.Arc
	state string
	open  map[int]bool
}

func (h *hidden) account(v int) string { return h.spec.Parties[v].Account }

// after is the time so many steps behind the swap's beginning.
func (h *hidden) after(steps int) int { return h.spec.Start + steps*h.spec.Delta }

func (s *shadow) hold(who string, swap api.Spec, arc int) api.Errno {
	h := &hidden{spec: swap, arc: swap.Arcs[arc], state: "held", open: map[int]bool{}}
	at := where{swap.ID, arc}
	from := [2]string{h.account(h.arc.From), h.arc.Asset}
	switch {
	case h.arc.Ledger != 1 || who != from[0]:
		return api.ErrArg
	case s.escrows[at] != nil:
		return api.ErrThere
	case s.time >= h.after(len(swap.Parties)):
		return api.ErrLate
	case len(s.escrows) == 12:
		return api.ErrFull
	case s.has[from] < h.arc.Amount:
		return api.ErrFunds
	}
	s.has[from] -= h.arc.Amount
	s.escrows[at] = h
	return api.OK
}

func (s *shadow) unlock(id string, arc int, k api.Hashkey, fits bool) api.Errno {
	h := s.escrows[where{id, arc}]
	switch {
	case h == nil:
		return api.ErrNone
	case h.state != "held":
		return api.ErrState
	case !fits:
		return api.ErrKey
	case h.open[k.Lock]:
		return api.ErrThere
	case s.time > h.after(len(h.spec.Parties)+len(k.Path)-1):
		return api.ErrLate
	}
	h.open[k.Lock] = true
	return api.OK
}

func (s *shadow) redeem(id string, arc int) api.Errno {
	h := s.escrows[where{id, arc}]
	switch {
	case h == nil:
		return api.ErrNone
	case h.state != "held":
		return api.ErrState
	case len(h.open) < len(h.spec.Locks):
		return api.ErrEarly
	}
	h.state = "redeemed"
	s.has[[2]string{h.account(h.arc.To), h.arc.Asset}] += h.arc.Amount
	return api.OK
}

func (s *shadow) refund(who, id string, arc int) api.Errno {
	h := s.escrows[where{id, arc}]
	switch {
	case h == nil:
		return api.ErrNone
	case who != h.account(h.arc.From):
		return api.ErrArg
	case h.state != "held":
		return api.ErrState
	case len(h.open) == len(h.spec.Locks):
		return api.ErrKey
	case s.time <= h.after(2*len(h.spec.Parties)-1):
		return api.ErrEarly
	}
	h.state = "refunded"
	s.has[[2]string{who, h.arc.Asset}] += h.arc.Amount
	return api.OK
}

func (s *shadow) funds() []api.Fund {
	var list []api.Fund
	for at, amount := range s.has {
		if amount != 0 {
			list = append(list, fixture.Fund(at[0], at[1], amount))
		}
	}
	slices.SortFunc(list, func(a, b api.Fund) int {
		return cmp.Or(cmp.Compare(a.Account, b.Account), cmp.Compare(a.Asset, b.Asset))
	})
	return list
}

// mustBe: the book has what the shadow has.
func (s *shadow) mustBe(t *testing.T, why string, b api.Book) {
	t.Helper()
	if !slices.Equal(b.Funds, s.funds()) || len(b.Escrows) != len(s.escrows) {
		t.Fatalf("%s: the book is %s, want %v", why, told(b), s.funds())
	}
	for at, h := range s.escrows {
		e, found := Find(b, at.id, at.arc)
		want := map[string]int{"held": api.Held, "redeemed": api.Redeemed, "refunded": api.Refunded}[h.state]
		if !found || e.State != want || Opened(e) != len(h.open) || !reflect.DeepEqual(e.Spec, h.spec) {
			t.Fatalf("%s: the escrow %v is in state %d, %d open, want %d, %d", why, at, e.State, Opened(e), want, len(h.open))
		}
	}
}

// rivals are swaps that ask for the same amounts, and keys of theirs by locks and parties: some lead to no arc.
func rivals() ([]api.Spec, [][]api.Hashkey) {
	late := fixture.Pair("late", "eve", "dee", "salt", 2)
	late.Start = 60
	specs := []api.Spec{fixture.Three(), fixture.Pair("pair", "dee", "eve", "gold", 60), fixture.Pair("again", "dee", "ann", "gold", 60), late}
	keys := [][]api.Hashkey{{fixture.Key(specs[0], 0, 0), fixture.Key(specs[0], 0, 2, 0), fixture.Key(specs[0], 0, 1, 0), fixture.Key(specs[0], 0, 1, 2, 0), fixture.Key(specs[0], 1, 2), fixture.Key(specs[0], 1, 1, 2), fixture.Key(specs[0], 1, 0, 1, 2), {}}}
	for _, s := range specs[1:] {
		keys = append(keys, []api.Hashkey{fixture.Key(s, 0, 1), fixture.Key(s, 0, 0, 1), {Lock: 9}})
	}
	return specs, keys
}

// P10.1 to P10.5: long runs of calls answer what the shadow does and leave what it has; each Total stays, and what has ended stays ended.
func TestLongRuns(t *testing.T) {
	random := rand.New(rand.NewSource(10))
	specs, keys := rivals()
	seen := map[string]int{}
	for range 40 {
		b := fixture.Market()
		s := &shadow{has: map[[2]string]int{}, escrows: map[where]*hidden{}}
		for _, f := range b.Funds {
			s.has[[2]string{f.Account, f.Asset}] = f.Amount
		}
		for range 300 {
			s.time += random.Intn(8) / 7 * random.Intn(5)
			b.Time = s.time
			i := random.Intn(len(specs))
			id, arc := specs[i].ID, random.Intn(len(specs[i].Arcs))
			who := fixture.Accounts()[random.Intn(5)]
			if random.Intn(2) == 0 {
				who = specs[i].Parties[specs[i].Arcs[arc].From].Account
			}
			var c call
			var want api.Errno
			switch random.Intn(5) {
			case 0:
				c, want = hold(who, specs[i], arc), s.hold(who, specs[i], arc)
			case 1, 2:
				k := keys[i][random.Intn(len(keys[i]))]
				fits := len(k.Path) > 0 && k.Path[0] == specs[i].Arcs[arc].To
				c, want = unlock(id, arc, k), s.unlock(id, arc, k, fits)
			case 3:
				c, want = redeem(who, id, arc), s.redeem(id, arc)
			case 4:
				c, want = refund(who, id, arc), s.refund(who, id, arc)
			}
			seen[fmt.Sprint(c.why[:6], " ", want)]++
			next, e := c.do(b)
			if e != want {
				t.Fatalf("%s at %d: %d, want %d", c.why, s.time, e, want)
			}
			if e != api.OK && !bank.Same(next, b) {
				t.Fatalf("%s at %d: refused, and the book is changed", c.why, s.time)
			}
			b = next
			s.mustBe(t, c.why, b)
			mustTotals(t, c.why, b, map[string]int{"gold": 101, "salt": 24, "wool": 7})
		}
	}
	// Each call answers each of its errors somewhere on the way, but those that there is no room for here.
	for _, want := range []string{
		"Hold(\" 0", "Hold(\" 1", "Hold(\" 5", "Hold(\" 8", "Hold(\" 6",
		"Unlock 0", "Unlock 4", "Unlock 11", "Unlock 10", "Unlock 5", "Unlock 8",
		"Redeem 0", "Redeem 4", "Redeem 11", "Redeem 9",
		"Refund 0", "Refund 4", "Refund 1", "Refund 11", "Refund 10", "Refund 9",
	} {
		if seen[want] == 0 {
			t.Errorf("%s is never answered: %v", want, seen)
		}
	}
}

// P10.5: an escrow that has ended ends no second time, whoever asks, and whenever.
func TestEndsOnce(t *testing.T) {
	for _, state := range []int{api.Redeemed, api.Refunded} {
		b := ended(t, heldBook(t), state)
		for _, time := range []int{math.MinInt, 0, 76, 77, math.MaxInt} {
			for _, who := range fixture.Accounts() {
				mustRefuse(t, fixture.At(b, time), redeem(who, "three", 0), api.ErrState)
			}
			mustRefuse(t, fixture.At(b, time), refund("ann", "three", 0), api.ErrState)
			for _, c := range opening() {
				mustRefuse(t, fixture.At(b, time), c, api.ErrState)
			}
		}
	}
}
