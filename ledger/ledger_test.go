package ledger

import (
	"fmt"
	"math"
	"math/rand"
	"reflect"
	"slices"
	"testing"

	"handsel/api"
	"handsel/bank"
	"handsel/cmd"
	"handsel/escrow"
	"handsel/fixture"
)

// market is that of the fixtures, at time 5.
func market() api.Book { return fixture.At(fixture.Market(), 5) }

func opening(who string) api.Cmd { return api.Cmd{Kind: 1, Who: who} }

func moving(who, whom, asset string, amount int) api.Cmd {
	return api.Cmd{Kind: 2, Who: who, Whom: whom, Asset: asset, Amount: amount}
}

func holding(who string, s api.Spec, arc int) api.Cmd {
	return api.Cmd{Kind: 3, Who: who, Spec: s, Arc: arc}
}

func unlocking(who, id string, arc int, k api.Hashkey) api.Cmd {
	return api.Cmd{Kind: 4, Who: who, Swap: id, Arc: arc, Key: k}
}

func redeeming(who, id string, arc int) api.Cmd {
	return api.Cmd{Kind: 5, Who: who, Swap: id, Arc: arc}
}

func refunding(who, id string, arc int) api.Cmd {
	return api.Cmd{Kind: 6, Who: who, Swap: id, Arc: arc}
}

func balance(who, asset string) api.Cmd { return api.Cmd{Kind: 7, Who: who, Asset: asset} }

func state(id string, arc int) api.Cmd { return api.Cmd{Kind: 8, Swap: id, Arc: arc} }

// both are the commands by which bob opens both locks of arc 0 of three.
func both() []api.Cmd {
	return []api.Cmd{unlocking("bob", "three", 0, fixture.Key(fixture.Three(), 0, 1, 0)), unlocking("bob", "three", 0, fixture.Key(fixture.Three(), 1, 1, 2))}
}

// after is the book behind commands, each given at its time by its Who; none of them may be refused.
func after(t *testing.T, b api.Book, commands ...api.Cmd) api.Book {
	t.Helper()
	for _, c := range commands {
		var r api.Reply
		if b, r = Apply(b, b.Time, c.Who, c); r.Err != api.OK {
			t.Fatalf("%s: %d", told(c), r.Err)
		}
	}
	return b
}

// heldBook is the market that holds the arcs of three that are on its ledger.
func heldBook(t *testing.T) api.Book {
	t.Helper()
	return after(t, market(), holding("ann", fixture.Three(), 0), holding("bob", fixture.Three(), 1), holding("cy", fixture.Three(), 2))
}

// openBook is heldBook with both locks of arc 0 open.
func openBook(t *testing.T) api.Book {
	t.Helper()
	return after(t, heldBook(t), both()...)
}

// endedBook is openBook with arc 0 redeemed and arc 1 refunded; arc 2 is held still.
func endedBook(t *testing.T) api.Book {
	t.Helper()
	return after(t, fixture.At(openBook(t), 77), redeeming("eve", "three", 0), refunding("bob", "three", 1))
}

// fullBook has as many escrows as there may be, all of dee's gold.
func fullBook(t *testing.T) api.Book {
	t.Helper()
	b := market()
	for i := range 12 {
		b = after(t, b, holding("dee", fixture.Pair("pair"+string(rune('a'+i)), "dee", "eve", "gold", 1), 0))
	}
	return b
}

// stamped is what Stamp answers, in other words.
func stamped(b api.Book, now int) api.Book {
	if now > 1<<40 {
		now = 1 << 40
	}
	if now >= 0 && now > b.Time {
		return fixture.At(b, now)
	}
	if b.Time < 0 {
		return fixture.At(b, 0)
	}
	return b
}

// told is a command in few words.
func told(c api.Cmd) string {
	return fmt.Sprintf("{%d, %.20q to %.20q, %d of %.20q, swap %.20q, arc %d, spec %.20q, lock %d by %v}",
		c.Kind, c.Who, c.Whom, c.Amount, c.Asset, c.Swap, c.Arc, c.Spec.ID, c.Key.Lock, c.Key.Path)
}

// shown is a book in few words.
func shown(b api.Book) string {
	out := fmt.Sprintf("number %d, time %d, %q, %v", b.Number, b.Time, b.Accounts, b.Funds)
	for _, e := range b.Escrows {
		out += fmt.Sprintf(", %s %d in state %d", e.Spec.ID, e.Arc, e.State)
		for _, k := range e.Keys {
			out += fmt.Sprintf(" %d%v", k.Lock, k.Path)
		}
	}
	return out
}

func cmdMemory(c api.Cmd) api.Cmd {
	c.Spec, c.Key = fixture.SpecMemory(c.Spec), fixture.KeyMemory(c.Key)
	return c
}

// must: the command answers that reply and that book, as a command and as bytes, and changes nothing of what is handed in.
func must(t *testing.T, b api.Book, now int, who string, c api.Cmd, r api.Reply, want api.Book) {
	t.Helper()
	b = fixture.Roomy(b)
	book, command := fixture.Memory(b), cmdMemory(c)
	mustAnswer(t, now, who, c, "Apply", r, want)(Apply(b, now, who, c))
	if bytes := cmd.Bytes(c); bytes != "" {
		mustAnswer(t, now, who, c, "Run", r, want)(Run(b, now, who, bytes))
	} else {
		mustAnswer(t, now, who, c, "Run", api.Reply{Err: api.ErrBytes}, stamped(b, now))(Run(b, now, who, bytes))
	}
	if !reflect.DeepEqual(fixture.Memory(b), book) || !reflect.DeepEqual(cmdMemory(c), command) {
		t.Errorf("%s by %q: what was handed in is changed", told(c), who)
	}
}

func mustAnswer(t *testing.T, now int, who string, c api.Cmd, call string, r api.Reply, want api.Book) func(api.Book, api.Reply) {
	t.Helper()
	return func(got api.Book, reply api.Reply) {
		t.Helper()
		if reply != r {
			t.Errorf("%s of %s by %q at %d: %v, want %v", call, told(c), who, now, reply, r)
		}
		if !bank.Same(got, want) {
			t.Errorf("%s of %s by %q at %d: the book is %s, want %s", call, told(c), who, now, shown(got), shown(want))
		}
	}
}

// mustRefuse: with an error nothing but the Time has changed.
func mustRefuse(t *testing.T, b api.Book, now int, who string, c api.Cmd, e api.Errno) {
	t.Helper()
	must(t, b, now, who, c, api.Reply{Err: e}, stamped(b, now))
}

// mustBeRefused: by its Who.
func mustBeRefused(t *testing.T, b api.Book, now int, c api.Cmd, e api.Errno) {
	t.Helper()
	mustRefuse(t, b, now, c.Who, c, e)
}

// P11.1: a now that is later is the Time, cut to what a Time may be; any other changes nothing.
func TestStamp(t *testing.T) {
	full := endedBook(t)
	for _, x := range [][3]int{
		{5, 4, 5}, {5, 5, 5}, {5, 6, 6}, {5, 0, 5}, {5, -1, 5}, {5, math.MinInt, 5}, {5, 1 << 39, 1 << 39},
		{5, 1<<40 - 1, 1<<40 - 1}, {5, 1 << 40, 1 << 40}, {5, 1<<40 + 1, 1 << 40}, {5, math.MaxInt, 1 << 40},
		{0, 0, 0}, {0, 1, 1}, {0, -1, 0}, {0, math.MinInt, 0}, {0, 1<<40 + 1, 1 << 40},
		{1 << 40, 0, 1 << 40}, {1 << 40, 1<<40 - 1, 1 << 40}, {1 << 40, 1 << 40, 1 << 40}, {1 << 40, math.MaxInt, 1 << 40},
		{-1, -2, 0}, {-1, 0, 0}, {-1, math.MinInt, 0}, {math.MinInt, -1, 0}, {math.MinInt, 3, 3},
		{1<<40 + 1, 0, 1<<40 + 1}, {1<<40 + 1, 1 << 41, 1<<40 + 1}, {math.MaxInt, math.MaxInt, math.MaxInt},
	} {
		for _, b := range []api.Book{{}, fixture.At(bank.New(3), x[0]), fixture.At(full, x[0])} {
			b.Time = x[0]
			r := fixture.Roomy(b)
			was := fixture.Memory(r)
			if got := Stamp(r, x[1]); !bank.Same(got, fixture.At(b, x[2])) {
				t.Errorf("Stamp at %d of %d: %s", x[0], x[1], shown(got))
			}
			if !reflect.DeepEqual(fixture.Memory(r), was) {
				t.Errorf("Stamp at %d of %d: the book that was handed in is changed", x[0], x[1])
			}
			if got := stamped(b, x[1]); got.Time != x[2] {
				t.Errorf("stamped at %d of %d: %d", x[0], x[1], got.Time)
			}
		}
	}
}

// done is what a command does that is not refused by ledger itself: as the chapter names it, by the calls of the layers below.
func done(b api.Book, c api.Cmd) (api.Book, api.Reply) {
	var e api.Errno
	var n int
	if c.Kind == 1 {
		b, e = bank.Open(b, c.Who)
	}
	if c.Kind == 2 {
		b, e = bank.Move(b, c.Who, c.Whom, c.Asset, c.Amount)
	}
	if c.Kind == 3 {
		b, e = escrow.Hold(b, c.Who, c.Spec, c.Arc)
	}
	if c.Kind == 4 {
		b, e = escrow.Unlock(b, c.Swap, c.Arc, c.Key)
	}
	if c.Kind == 5 {
		b, e = escrow.Redeem(b, c.Who, c.Swap, c.Arc)
	}
	if c.Kind == 6 {
		b, e = escrow.Refund(b, c.Who, c.Swap, c.Arc)
	}
	if c.Kind == 7 {
		n, e = bank.Balance(b, c.Who, c.Asset)
	}
	if c.Kind == 8 {
		if found, there := escrow.Find(b, c.Swap, c.Arc); there {
			n = found.State + 10*escrow.Opened(found)
		} else {
			e = api.ErrNone
		}
	}
	return b, api.Reply{Err: e, N: n}
}

// mustDo: the command does what the layers below do at that time, and is not refused.
func mustDo(t *testing.T, b api.Book, now int, c api.Cmd) api.Book {
	t.Helper()
	want, r := done(stamped(b, now), c)
	if r.Err != api.OK {
		t.Errorf("%s at %d: %d", told(c), now, r.Err)
	}
	must(t, b, now, c.Who, c, r, want)
	return want
}

// P11.1: each Kind of command, done.
func TestEachKind(t *testing.T) {
	b := mustDo(t, market(), 6, opening("fay"))
	if !slices.Equal(b.Accounts, []string{"dee", "cy", "bob", "ann", "eve", "fay"}) || b.Time != 6 {
		t.Errorf("opened: %s", shown(b))
	}
	b = mustDo(t, b, 7, moving("dee", "fay", "gold", 80))
	if !slices.Contains(b.Funds, fixture.Fund("fay", "gold", 80)) || !slices.Contains(b.Funds, fixture.Fund("dee", "gold", 10)) {
		t.Errorf("moved: %s", shown(b))
	}
	b = mustDo(t, b, 8, holding("ann", fixture.Three(), 0))
	if len(b.Escrows) != 1 || b.Escrows[0].State != api.Held || !slices.Contains(b.Funds, fixture.Fund("ann", "gold", 7)) {
		t.Errorf("held: %s", shown(b))
	}
	for _, c := range both() {
		b = mustDo(t, b, 9, c)
	}
	if escrow.Opened(b.Escrows[0]) != 2 {
		t.Errorf("opened: %s", shown(b))
	}
	b = mustDo(t, b, 10, holding("bob", fixture.Three(), 1))
	b = mustDo(t, b, 11, redeeming("fay", "three", 0))
	if b.Escrows[0].State != api.Redeemed || !slices.Contains(b.Funds, fixture.Fund("bob", "gold", 3)) {
		t.Errorf("redeemed: %s", shown(b))
	}
	b = mustDo(t, b, 77, refunding("bob", "three", 1))
	if b.Escrows[1].State != api.Refunded || !slices.Contains(b.Funds, fixture.Fund("bob", "salt", 20)) {
		t.Errorf("refunded: %s", shown(b))
	}
	must(t, b, 78, "fay", balance("fay", "gold"), api.Reply{N: 80}, fixture.At(b, 78))
	must(t, b, 78, "fay", state("three", 0), api.Reply{N: 22}, fixture.At(b, 78))
	must(t, b, 78, "fay", state("three", 1), api.Reply{N: 3}, fixture.At(b, 78))
}

// askedOf is a command of each Kind that a book takes.
func askedOf(t *testing.T) []struct {
	b api.Book
	c api.Cmd
} {
	t.Helper()
	return []struct {
		b api.Book
		c api.Cmd
	}{
		{market(), opening("fay")},
		{market(), moving("dee", "cy", "gold", 1)},
		{market(), holding("ann", fixture.Three(), 0)},
		{heldBook(t), both()[0]},
		{openBook(t), redeeming("cy", "three", 0)},
		{fixture.At(heldBook(t), 77), refunding("ann", "three", 0)},
		{market(), balance("dee", "gold")},
		{heldBook(t), state("three", 0)},
	}
}

// P11.1: for a change each speaks for itself alone, and that is asked ahead of all that bank and escrow ask; anyone asks what there is.
func TestWho(t *testing.T) {
	whos := []string{"", "ann", "bob", "cy", "dee", "eve", "fay", "Ann", "an", "anna", "nobody", fixture.Of('n', 17)}
	for i, x := range askedOf(t) {
		if x.c.Kind != i+1 {
			t.Fatalf("%d is of Kind %d", i, x.c.Kind)
		}
		want, r := done(x.b, x.c)
		if r.Err != api.OK {
			t.Fatalf("%s: %d", told(x.c), r.Err)
		}
		for _, who := range whos {
			if x.c.Kind >= 7 || who == x.c.Who {
				must(t, x.b, 0, who, x.c, r, want)
				continue
			}
			mustRefuse(t, x.b, 0, who, x.c, api.ErrArg)
			mustRefuse(t, x.b, 99, who, x.c, api.ErrArg)
			mustRefuse(t, bank.New(0), 0, who, x.c, api.ErrArg)
			mustRefuse(t, endedBook(t), 1<<41, who, x.c, api.ErrArg)
			mustRefuse(t, fullBook(t), -1, who, x.c, api.ErrArg)
		}
	}
	// Who plays no part in these beyond that: anyone may, in its own name.
	for _, who := range []string{"ann", "bob", "cy", "nobody", fixture.Of('n', 16)} {
		k := both()[0].Key
		mustDo(t, heldBook(t), 50, unlocking(who, "three", 0, k))
		mustDo(t, openBook(t), 50, redeeming(who, "three", 0))
	}
}

// unfit are commands that cmd's Check refuses, most of them made of ones that it takes.
func unfit(t *testing.T) []api.Cmd {
	t.Helper()
	list := []api.Cmd{{}, {Kind: -1}, {Kind: 9}, {Kind: math.MinInt}, {Kind: math.MaxInt}, {Kind: 9, Who: "ann"}, {Kind: 1<<32 + 1, Who: "fay"}, opening(""), opening(fixture.Of('n', 17))}
	for _, change := range []func(c *api.Cmd){
		func(c *api.Cmd) { c.Kind = 0 },
		func(c *api.Cmd) { c.Kind = 9 },
		func(c *api.Cmd) { c.Kind += 1 << 32 },
		func(c *api.Cmd) { c.Who += fixture.Of('n', 16) },
		func(c *api.Cmd) { c.Whom += fixture.Of('n', 17) },
		func(c *api.Cmd) { c.Asset += fixture.Of('n', 17) },
		func(c *api.Cmd) { c.Swap += fixture.Of('n', 17) },
		func(c *api.Cmd) { c.Amount = -1 },
		func(c *api.Cmd) { c.Amount = 1<<50 + 1 },
		func(c *api.Cmd) { c.Arc = -1 },
		func(c *api.Cmd) { c.Arc = 12 },
		func(c *api.Cmd) { c.Spec.Delta ^= 1 << 40 },
		func(c *api.Cmd) { c.Key.Lock += 3 },
	} {
		for _, x := range askedOf(t) {
			change(&x.c)
			list = append(list, x.c)
		}
	}
	return list
}

// P11.1: a command that cmd's Check refuses, whoever gives it, whatever the book is.
func TestUnfitCommands(t *testing.T) {
	for _, c := range unfit(t) {
		if cmd.Check(c) {
			t.Errorf("%s: Check says yes", told(c))
		}
		for _, b := range []api.Book{bank.New(1), market(), openBook(t), endedBook(t)} {
			for i, who := range []string{c.Who, "ann", ""} {
				mustRefuse(t, b, 10*i, who, c, api.ErrArg)
			}
		}
	}
	for kind := -3; kind < 20; kind++ {
		mustRefuse(t, market(), 9, "fay", api.Cmd{Kind: kind, Who: "fay", Spec: fixture.Three()}, api.ErrArg)
	}
}

// P11.1: what bank's calls refuse, each by itself and two at once.
func TestBankRefuses(t *testing.T) {
	b := market()
	mustBeRefused(t, b, 9, opening("ann"), api.ErrThere)
	full := after(t, b, opening("a1"), opening("a2"), opening("a3"), opening("a4"), opening("a5"), opening("a6"), opening("a7"))
	mustBeRefused(t, full, 9, opening("fay"), api.ErrFull)
	mustBeRefused(t, full, 9, opening("ann"), api.ErrThere)
	mustDo(t, after(t, b, opening("a1"), opening("a2"), opening("a3"), opening("a4"), opening("a5"), opening("a6")), 9, opening("fay"))

	mustBeRefused(t, b, 9, moving("fay", "ann", "gold", 1), api.ErrNone)
	mustBeRefused(t, b, 9, moving("ann", "bob", "gold", 11), api.ErrFunds)
	mustBeRefused(t, b, 9, moving("ann", "bob", "salt", 1), api.ErrFunds)
	mustBeRefused(t, b, 9, moving("ann", "bob", "gold", 1<<50), api.ErrFunds)
	mustBeRefused(t, b, 9, moving("ann", "fay", "gold", 1), api.ErrNone)
	mustBeRefused(t, b, 9, moving("ann", "fay", "gold", 11), api.ErrFunds)
	mustBeRefused(t, b, 9, moving("fay", "gil", "gold", 1<<50), api.ErrNone)
	mustDo(t, b, 9, moving("ann", "bob", "gold", 10))
	must(t, b, 9, "ann", moving("ann", "ann", "gold", 10), api.Reply{}, fixture.At(b, 9))
	mustBeRefused(t, b, 9, moving("ann", "ann", "gold", 11), api.ErrFunds)

	mustRefuse(t, b, 9, "ann", balance("fay", "gold"), api.ErrNone)
	mustRefuse(t, b, 9, "fay", balance("fay", "tin"), api.ErrNone)
}

// P11.1: what Hold refuses, each by itself and two at once.
func TestHoldRefuses(t *testing.T) {
	s := fixture.Three()
	torn := fixture.Three()
	torn.Arcs = torn.Arcs[:1]
	b := market()
	mustBeRefused(t, b, 9, holding("ann", torn, 0), api.ErrSpec)
	mustBeRefused(t, b, 9, holding("ann", torn, 11), api.ErrSpec)
	mustBeRefused(t, b, 9, holding("ann", s, 4), api.ErrArg)
	mustBeRefused(t, b, 9, holding("ann", s, 11), api.ErrArg)
	mustBeRefused(t, b, 9, holding("bob", s, 3), api.ErrArg)
	mustBeRefused(t, b, 9, holding("bob", s, 0), api.ErrArg)
	mustBeRefused(t, heldBook(t), 9, holding("ann", s, 0), api.ErrThere)
	mustBeRefused(t, heldBook(t), 9, holding("bob", s, 0), api.ErrArg)
	mustBeRefused(t, heldBook(t), 99, holding("ann", s, 0), api.ErrThere)
	mustBeRefused(t, endedBook(t), 99, holding("ann", s, 0), api.ErrThere)
	none, _ := bank.Open(bank.New(1), "ann")
	mustBeRefused(t, none, 9, holding("ann", s, 0), api.ErrNone)
	mustBeRefused(t, none, 50, holding("ann", s, 0), api.ErrNone)
	mustBeRefused(t, b, 50, holding("ann", s, 0), api.ErrLate)
	mustBeRefused(t, b, 1<<40, holding("ann", s, 0), api.ErrLate)
	mustBeRefused(t, fixture.At(b, 50), 9, holding("ann", s, 0), api.ErrLate)
	mustDo(t, b, 49, holding("ann", s, 0))
	mustBeRefused(t, fullBook(t), 9, holding("ann", s, 0), api.ErrFull)
	mustBeRefused(t, fullBook(t), 50, holding("ann", s, 0), api.ErrLate)
	mustBeRefused(t, b, 9, holding("dee", fixture.Pair("pair", "dee", "eve", "gold", 91), 0), api.ErrFunds)
	mustBeRefused(t, fullBook(t), 9, holding("dee", fixture.Pair("pair", "dee", "eve", "gold", 91), 0), api.ErrFull)
	mustDo(t, b, 9, holding("dee", fixture.Pair("pair", "dee", "eve", "gold", 90), 0))
}

// P11.1: what Unlock refuses, each by itself and two at once, by the book's Time or now, whichever is later.
func TestUnlockRefuses(t *testing.T) {
	s := fixture.Three()
	b := heldBook(t)
	short, long := fixture.Key(s, 1, 1, 2), fixture.Key(s, 0, 1, 2, 0)
	mustBeRefused(t, b, 9, unlocking("bob", "three", 3, short), api.ErrNone)
	mustBeRefused(t, b, 9, unlocking("bob", "four", 0, short), api.ErrNone)
	mustBeRefused(t, b, 9, unlocking("bob", "three", 1, short), api.ErrKey)
	mustBeRefused(t, market(), 9, unlocking("bob", "three", 1, short), api.ErrNone)
	for _, arc := range []int{0, 1} {
		mustBeRefused(t, endedBook(t), 99, unlocking("bob", "three", arc, short), api.ErrState)
		mustBeRefused(t, endedBook(t), 99, unlocking("bob", "three", arc, fixture.Key(s, 0, 0)), api.ErrState)
	}
	other := short
	other.Secret = "opem"
	mustBeRefused(t, b, 9, unlocking("bob", "three", 0, other), api.ErrKey)
	mustBeRefused(t, b, 99, unlocking("bob", "three", 0, other), api.ErrKey)
	mustBeRefused(t, openBook(t), 9, unlocking("bob", "three", 0, short), api.ErrThere)
	mustBeRefused(t, openBook(t), 99, unlocking("bob", "three", 0, short), api.ErrThere)
	mustBeRefused(t, openBook(t), 9, unlocking("bob", "three", 0, other), api.ErrKey)
	mustDo(t, b, 63, unlocking("bob", "three", 0, short))
	mustBeRefused(t, b, 64, unlocking("bob", "three", 0, short), api.ErrLate)
	mustBeRefused(t, fixture.At(b, 64), 9, unlocking("bob", "three", 0, short), api.ErrLate)
	mustDo(t, b, 76, unlocking("bob", "three", 0, long))
	mustBeRefused(t, b, 77, unlocking("bob", "three", 0, long), api.ErrLate)
	mustBeRefused(t, b, math.MaxInt, unlocking("bob", "three", 0, long), api.ErrLate)
	mustDo(t, b, math.MinInt, unlocking("bob", "three", 0, long))
}

// P11.1: what Redeem and Refund refuse, each by itself and two at once, by the book's Time or now, whichever is later.
func TestEndsRefuse(t *testing.T) {
	b, open, ended := heldBook(t), openBook(t), endedBook(t)
	one := after(t, b, both()[0])
	mustBeRefused(t, b, 99, redeeming("bob", "three", 3), api.ErrNone)
	mustBeRefused(t, b, 99, redeeming("bob", "four", 0), api.ErrNone)
	mustBeRefused(t, ended, 99, redeeming("bob", "three", 0), api.ErrState)
	mustBeRefused(t, ended, 99, redeeming("bob", "three", 1), api.ErrState)
	mustBeRefused(t, b, 99, redeeming("bob", "three", 0), api.ErrEarly)
	mustBeRefused(t, one, 99, redeeming("bob", "three", 0), api.ErrEarly)
	mustDo(t, open, 0, redeeming("bob", "three", 0))
	mustDo(t, open, 1<<40, redeeming("bob", "three", 0))

	mustBeRefused(t, b, 99, refunding("ann", "three", 3), api.ErrNone)
	mustBeRefused(t, b, 99, refunding("ann", "four", 0), api.ErrNone)
	mustBeRefused(t, b, 99, refunding("bob", "three", 0), api.ErrArg)
	mustBeRefused(t, ended, 99, refunding("ann", "three", 0), api.ErrState)
	mustBeRefused(t, ended, 99, refunding("bob", "three", 1), api.ErrState)
	mustBeRefused(t, ended, 99, refunding("bob", "three", 0), api.ErrArg)
	mustBeRefused(t, open, 99, refunding("ann", "three", 0), api.ErrKey)
	mustBeRefused(t, open, 9, refunding("ann", "three", 0), api.ErrKey)
	mustBeRefused(t, open, 9, refunding("bob", "three", 0), api.ErrArg)
	mustBeRefused(t, b, 76, refunding("ann", "three", 0), api.ErrEarly)
	mustBeRefused(t, one, 76, refunding("ann", "three", 0), api.ErrEarly)
	mustDo(t, b, 77, refunding("ann", "three", 0))
	mustDo(t, one, 77, refunding("ann", "three", 0))
	mustDo(t, fixture.At(b, 77), 9, refunding("ann", "three", 0))
	mustDo(t, b, math.MaxInt, refunding("ann", "three", 0))
}

// P11.1: State tells an escrow's state, and how many of its locks are open; anyone may ask.
func TestState(t *testing.T) {
	b, calls := heldBook(t), both()
	one, other, open := after(t, b, calls[0]), after(t, b, calls[1]), openBook(t)
	led := fixture.Swap("led", []string{"dee", "eve", "ann"}, []api.Arc{
		{From: 0, To: 1, Ledger: 1, Asset: "gold", Amount: 1}, {From: 1, To: 2, Ledger: 1, Asset: "salt", Amount: 1}, {From: 2, To: 0, Ledger: 1, Asset: "gold", Amount: 1},
	}, 2, 0, 1)
	all := after(t, market(), holding("dee", led, 0), unlocking("eve", "led", 0, fixture.Key(led, 2, 1)), unlocking("eve", "led", 0, fixture.Key(led, 0, 1, 2)), unlocking("eve", "led", 0, fixture.Key(led, 1, 1, 2, 0)))
	for i, x := range []struct {
		b       api.Book
		id      string
		arc, n  int
		another string
	}{
		{b, "three", 0, 1, "held"}, {b, "three", 2, 1, "held"}, {one, "three", 0, 11, "one is open"}, {other, "three", 0, 11, "the other one"}, {open, "three", 0, 21, "both"}, {open, "three", 1, 1, "of another arc"},
		{endedBook(t), "three", 0, 22, "redeemed"}, {endedBook(t), "three", 1, 3, "refunded"}, {endedBook(t), "three", 2, 1, "held still"},
		{after(t, fixture.At(one, 77), refunding("ann", "three", 0)), "three", 0, 13, "refunded, one is open"},
		{all, "led", 0, 31, "three locks"}, {after(t, all, redeeming("cy", "led", 0)), "led", 0, 32, "three locks, redeemed"},
	} {
		for _, who := range []string{"", "ann", "nobody", fixture.Of('n', 99)} {
			must(t, x.b, 50+i, who, state(x.id, x.arc), api.Reply{N: x.n}, stamped(x.b, 50+i))
		}
		mustRefuse(t, x.b, 99, "ann", state(x.id, 3), api.ErrNone)
		mustRefuse(t, x.b, 99, "ann", state(x.id, 11), api.ErrNone)
		mustRefuse(t, x.b, 99, "", state("four", x.arc), api.ErrNone)
	}
	mustRefuse(t, market(), 99, "", state("three", 0), api.ErrNone)
	mustRefuse(t, bank.New(1), 99, "", state("three", 0), api.ErrNone)
}

// P11.1: Balance tells what an account has; anyone may ask.
func TestBalance(t *testing.T) {
	b := endedBook(t)
	for _, x := range []struct {
		who, asset string
		n          int
	}{{"ann", "gold", 7}, {"bob", "gold", 3}, {"bob", "salt", 20}, {"cy", "gold", 1}, {"cy", "wool", 0}, {"dee", "gold", 90}, {"dee", "salt", 0}, {"eve", "tin", 0}, {"eve", fixture.Of('n', 16), 0}} {
		for _, who := range []string{"", x.who, "eve", "nobody", fixture.Of('n', 99)} {
			must(t, b, 80, who, balance(x.who, x.asset), api.Reply{N: x.n}, fixture.At(b, 80))
		}
	}
	mustRefuse(t, b, 80, "ann", balance("fay", "gold"), api.ErrNone)
	mustRefuse(t, b, 80, "ann", balance("", "gold"), api.ErrArg)
	mustRefuse(t, b, 80, "ann", balance("ann", ""), api.ErrArg)
	rich, e := bank.Give(b, "eve", "tin", 1<<50)
	if e != api.OK {
		t.Fatal(e)
	}
	must(t, rich, 80, "ann", balance("eve", "tin"), api.Reply{N: 1 << 50}, fixture.At(rich, 80))
}

// P11.1: what Run refuses of bytes, it refuses with the error of cmd's Read, and the book is stamped.
func TestRunOfOddBytes(t *testing.T) {
	good := cmd.Bytes(opening("fay"))
	list := []string{"", "x", good[:len(good)-1], good + "x", "x" + good, good + good, good[1:], fixture.Of(0, 8), fixture.Of(255, 8), fixture.Of(0, 1<<14), fixture.Of('x', 1<<14), fixture.Of('x', 1<<14+1), good + fixture.Of(0, 1<<14), fixture.Of(0, 1<<15), fixture.Of(0, 1<<20)}
	for i := range good {
		turned := []byte(good)
		turned[i] ^= 1 << 7
		list = append(list, string(turned))
	}
	for _, b := range []api.Book{market(), endedBook(t)} {
		for _, bytes := range list {
			for _, now := range []int{-1, 3, 99, 1 << 41} {
				c, e := cmd.Read(bytes)
				want, r := stamped(b, now), api.Reply{Err: e}
				if e == api.OK {
					want, r = Apply(b, now, "fay", c)
				}
				got, reply := Run(b, now, "fay", bytes)
				if reply != r || !bank.Same(got, want) {
					t.Errorf("%.20x at %d: %v, %s", bytes, now, reply, shown(got))
				}
			}
		}
	}
	for i, bytes := range list[:15] {
		want := api.ErrBytes
		if i >= 11 {
			want = api.ErrBig
		}
		if _, r := Run(market(), 9, "fay", bytes); r != (api.Reply{Err: want}) {
			t.Errorf("%.20x, %d bytes: %v", bytes, len(bytes), r)
		}
	}
}

// R3: a book keeps nothing of a command that whoever handed it in may change later.
func TestNothingIsKept(t *testing.T) {
	s, k := fixture.Three(), fixture.Key(fixture.Three(), 0, 1, 0)
	b := after(t, market(), holding("ann", s, 0), unlocking("bob", "three", 0, k))
	was := fixture.Memory(b)
	for i := range s.Parties {
		clear(s.Parties[i].Keys)
	}
	clear(s.Parties)
	clear(s.Arcs)
	clear(s.Leaders)
	clear(s.Locks)
	clear(k.Path)
	clear(k.Sigs)
	if !reflect.DeepEqual(fixture.Memory(b), was) {
		t.Error("what was handed in is kept")
	}
}

// deal is all that long runs ask: commands of each Kind, by whom they may be given, some that may never be.
func deal() []api.Cmd {
	s := fixture.Three()
	list := []api.Cmd{{}, opening("ann"), opening("fay"), opening("gil"), opening(""), balance("ann", "gold"), balance("gil", "salt"), state("three", 0), state("three", 3), state("pair", 0)}
	for _, who := range []string{"ann", "bob", "fay"} {
		list = append(list, moving(who, "cy", "gold", 2), moving("cy", who, "wool", 3), moving("dee", who, "gold", 6), redeeming(who, "pair", 0), refunding(who, "pair", 1))
	}
	for arc := range 4 {
		from, to := s.Parties[s.Arcs[arc].From].Account, s.Parties[s.Arcs[arc].To].Account
		list = append(list, holding(from, s, arc), holding(to, s, arc), redeeming(to, "three", arc), refunding(from, "three", arc), refunding(to, "three", arc), state("three", arc))
	}
	for arc, keys := range [][]api.Hashkey{{fixture.Key(s, 0, 1, 0), fixture.Key(s, 1, 1, 2), fixture.Key(s, 0, 0)}, {fixture.Key(s, 0, 2, 0), fixture.Key(s, 1, 2)}, {fixture.Key(s, 0, 0), fixture.Key(s, 1, 0, 1, 2)}} {
		for _, k := range keys {
			list = append(list, unlocking("eve", "three", arc, k), unlocking(s.Parties[s.Arcs[arc].To].Account, "three", arc, k))
		}
	}
	p := fixture.Pair("pair", "dee", "eve", "gold", 60)
	return append(list, holding("dee", p, 0), holding("eve", p, 1), unlocking("eve", "pair", 0, fixture.Key(p, 0, 1)), unlocking("dee", "pair", 1, fixture.Key(p, 0, 0, 1)), refunding("dee", "pair", 0))
}

// P11.1 to P11.3: in long runs each answer is what the layers below answer; what is refused changes nothing but the Time,
// each asset's total stays, and a book that was written and read goes on as the one that it was written of.
func TestLongRuns(t *testing.T) {
	random := rand.New(rand.NewSource(11))
	commands := deal()
	seen := map[string]int{}
	for range 25 {
		b, now := market(), 5
		again := b
		for range 400 {
			now += random.Intn(20) / 19 * random.Intn(9)
			c := commands[random.Intn(len(commands))]
			who, time := c.Who, now-random.Intn(3)
			if random.Intn(9) == 0 {
				who = []string{"", "ann", "bob"}[random.Intn(3)]
			}
			want, r := stamped(b, time), api.Reply{Err: api.ErrArg}
			if cmd.Check(c) && (who == c.Who || c.Kind > 6) {
				want, r = done(want, c)
			}
			next, reply := Apply(b, time, who, c)
			twin, heard := Run(again, time, who, cmd.Bytes(c))
			seen[fmt.Sprint(c.Kind, " ", r.Err)]++
			if reply != r || heard != r && cmd.Check(c) || !bank.Same(next, want) || !bank.Same(twin, want) {
				t.Fatalf("%s by %q at %d: %v, %v, want %v", told(c), who, time, reply, heard, r)
			}
			if r.Err != api.OK && !bank.Same(next, fixture.At(b, next.Time)) || next.Time < b.Time {
				t.Fatalf("%s by %q at %d: refused, and the book is changed", told(c), who, time)
			}
			for asset, amount := range map[string]int{"gold": 101, "salt": 24, "wool": 7} {
				if got := bank.Total(next, asset); got != amount {
					t.Fatalf("%s by %q at %d: the Total of %s is %d, want %d", told(c), who, time, asset, got, amount)
				}
			}
			read, e := Read(Bytes(twin))
			if e != api.OK || !bank.Same(read, twin) {
				t.Fatalf("%s: the book %s is not read: %d", told(c), shown(twin), e)
			}
			b, again = next, read
		}
	}
	for _, want := range []string{"0 1", "1 0", "1 1", "1 5", "2 0", "2 1", "2 4", "2 6", "3 0", "3 1", "3 5", "3 6", "3 8", "4 0", "4 1", "4 4", "4 5", "4 8", "4 10", "4 11", "5 0", "5 1", "5 4", "5 9", "5 11", "6 0", "6 1", "6 4", "6 9", "6 10", "6 11", "7 0", "7 4", "8 0", "8 4"} {
		if seen[want] == 0 {
			t.Errorf("%s is never answered: %v", want, seen)
		}
	}
}
