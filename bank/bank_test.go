package bank

import (
	"cmp"
	"fmt"
	"math"
	"math/rand"
	"reflect"
	"slices"
	"strings"
	"testing"

	"handsel/api"
)

func of(b byte, size int) string { return strings.Repeat(string([]byte{b}), size) }

func fund(account, asset string, amount int) api.Fund {
	return api.Fund{Account: account, Asset: asset, Amount: amount}
}

// market is a book of three accounts, opened out of order, that have three assets.
func market(t *testing.T) api.Book {
	t.Helper()
	return given(t, opened(t, New(1), "cy", "ann", "bob"),
		fund("bob", "salt", 5), fund("ann", "gold", 7), fund("cy", "gold", 1), fund("bob", "gold", 2), fund("cy", "wool", 9))
}

func opened(t *testing.T, b api.Book, names ...string) api.Book {
	t.Helper()
	for _, name := range names {
		var e api.Errno
		if b, e = Open(b, name); e != api.OK {
			t.Fatalf("Open of %q: %d", name, e)
		}
	}
	return b
}

func given(t *testing.T, b api.Book, funds ...api.Fund) api.Book {
	t.Helper()
	for _, f := range funds {
		var e api.Errno
		if b, e = Give(b, f.Account, f.Asset, f.Amount); e != api.OK {
			t.Fatalf("Give of %v: %d", f, e)
		}
	}
	return b
}

// escrow holds so much of an asset in its second arc; what stands in the other arcs plays no part.
func escrow(asset string, amount, state int) api.Escrow {
	return api.Escrow{
		Spec: api.Spec{ID: "s", Arcs: []api.Arc{
			{From: 0, To: 1, Asset: "other", Amount: 1 << 40},
			{From: 1, To: 0, Asset: asset, Amount: amount},
			{From: 1, To: 2, Asset: "another", Amount: 1 << 41},
		}},
		Arc: 1, State: state,
	}
}

// holding is a book with escrows more.
func holding(b api.Book, escrows ...api.Escrow) api.Book {
	b.Escrows = slices.Concat(b.Escrows, escrows)
	return b
}

// roomy is the same book, with room behind each of its lists: who appends without a copy writes there.
func roomy(b api.Book) api.Book {
	b.Accounts = withRoom(b.Accounts, "room")
	b.Funds = withRoom(b.Funds, fund("room", "room", 1))
	b.Escrows = withRoom(b.Escrows, api.Escrow{State: 99})
	return b
}

func withRoom[T any](list []T, mark T) []T {
	return slices.Concat(list, slices.Repeat([]T{mark}, 5))[:len(list)]
}

// memory is a copy of all that a book's lists reach, the room behind them too.
func memory(b api.Book) api.Book {
	b.Accounts = slices.Clone(b.Accounts[:cap(b.Accounts)])
	b.Funds = slices.Clone(b.Funds[:cap(b.Funds)])
	b.Escrows = slices.Clone(b.Escrows[:cap(b.Escrows)])
	for i := range b.Escrows {
		b.Escrows[i].Spec.Arcs = slices.Clone(b.Escrows[i].Spec.Arcs)
		b.Escrows[i].Keys = slices.Clone(b.Escrows[i].Keys)
	}
	return b
}

// alike holds books against each other without a call of this package; nil and an empty list are one.
func alike(a, b api.Book) bool {
	return a.Number == b.Number && a.Time == b.Time && slices.Equal(a.Accounts, b.Accounts) && slices.Equal(a.Funds, b.Funds) &&
		slices.EqualFunc(a.Escrows, b.Escrows, func(a, b api.Escrow) bool { return reflect.DeepEqual(a, b) })
}

// call is one that answers a book, in words and as a function.
type call struct {
	why string
	do  func(b api.Book) (api.Book, api.Errno)
}

func open(who string) call {
	return call{fmt.Sprintf("Open(%.20q)", who), func(b api.Book) (api.Book, api.Errno) { return Open(b, who) }}
}

func give(who, asset string, amount int) call {
	return call{fmt.Sprintf("Give(%.20q, %.20q, %d)", who, asset, amount), func(b api.Book) (api.Book, api.Errno) { return Give(b, who, asset, amount) }}
}

func take(who, asset string, amount int) call {
	return call{fmt.Sprintf("Take(%.20q, %.20q, %d)", who, asset, amount), func(b api.Book) (api.Book, api.Errno) { return Take(b, who, asset, amount) }}
}

func move(who, whom, asset string, amount int) call {
	return call{fmt.Sprintf("Move(%.20q, %.20q, %.20q, %d)", who, whom, asset, amount), func(b api.Book) (api.Book, api.Errno) { return Move(b, who, whom, asset, amount) }}
}

// must: the call answers that error and that book, and changes nothing of what is handed in.
func must(t *testing.T, b api.Book, c call, e api.Errno, want api.Book) {
	t.Helper()
	b = roomy(b)
	was := memory(b)
	got, err := c.do(b)
	if err != e {
		t.Errorf("%s: %d, want %d", c.why, err, e)
	}
	if !alike(got, want) {
		t.Errorf("%s: the book is %v, want %v", c.why, got, want)
	}
	if !reflect.DeepEqual(memory(b), was) {
		t.Errorf("%s: the book that was handed in is changed", c.why)
	}
}

// mustRefuse: with an error the book that is answered is the one that was handed in.
func mustRefuse(t *testing.T, b api.Book, c call, e api.Errno) {
	t.Helper()
	must(t, b, c, e, b)
}

// mustFund: the call is taken, and the Funds are these then; all else stays.
func mustFund(t *testing.T, b api.Book, c call, funds ...api.Fund) {
	t.Helper()
	want := b
	want.Funds = funds
	must(t, b, c, api.OK, want)
}

func mustBalance(t *testing.T, b api.Book, who, asset string, has int, e api.Errno) {
	t.Helper()
	if got, err := Balance(b, who, asset); got != has || err != e {
		t.Errorf("Balance(%.20q, %.20q): %d, %d, want %d, %d", who, asset, got, err, has, e)
	}
}

func mustTotal(t *testing.T, b api.Book, asset string, want int) {
	t.Helper()
	if got := Total(b, asset); got != want {
		t.Errorf("Total(%.20q): %d, want %d", asset, got, want)
	}
}

// noNames are texts that are no names, names are some that are.
func noNames() []string {
	return []string{"", of('n', 17), of('n', 18), of('n', 255), of('n', 256+3), of('n', 1<<16+3), strings.Repeat("\u00e9", 9)}
}

func names() []string {
	return []string{"x", " ", "\x00", "\xff\xfe", "gold", of('n', 15), of('n', 16), of('\xff', 16), strings.Repeat("\u00e9", 8)}
}

func noAmounts() []int {
	return []int{0, -1, -7, -1 << 50, 1<<50 + 1, 1 << 51, 1 << 62, math.MaxInt, math.MinInt, math.MinInt + 1}
}

// P9.1: New's Number is cut, and there is nothing else.
func TestNew(t *testing.T) {
	for number, want := range map[int]int{
		math.MinInt: 0, -1 << 32: 0, -4: 0, -1: 0,
		0: 0, 1: 1, 2: 2, 3: 3,
		4: 3, 5: 3, 255: 3, 256: 3, 1 << 32: 3, math.MaxInt: 3,
	} {
		if got := New(number); !alike(got, api.Book{Number: want}) {
			t.Errorf("New(%d): %v", number, got)
		}
	}
}

// P9.1: accounts stand in the order in which they were opened.
func TestOpen(t *testing.T) {
	b := New(2)
	for i, name := range names() {
		want := b
		want.Accounts = names()[:i+1]
		must(t, b, open(name), api.OK, want)
		b = opened(t, b, name)
	}
	b = market(t)
	want := b
	want.Accounts = []string{"cy", "ann", "bob", "abe"}
	must(t, b, open("abe"), api.OK, want)
	must(t, holding(b, escrow("gold", 3, api.Held)), open("abe"), api.OK, holding(want, escrow("gold", 3, api.Held)))
}

func TestOpenRefuses(t *testing.T) {
	b := market(t)
	for _, name := range noNames() {
		mustRefuse(t, b, open(name), api.ErrArg)
	}
	for _, name := range b.Accounts {
		mustRefuse(t, b, open(name), api.ErrThere)
	}
}

// full is a book of as many accounts as there may be.
func full(t *testing.T) api.Book {
	t.Helper()
	b := New(0)
	for i := range 12 {
		b = opened(t, b, of('a', i+1))
	}
	return b
}

// P9.1: just as many accounts as there may be, one more, and what comes ahead of that.
func TestOpenFull(t *testing.T) {
	b := full(t)
	if len(b.Accounts) != api.MaxAccounts || api.MaxAccounts != 12 {
		t.Fatalf("%d accounts", len(b.Accounts))
	}
	mustRefuse(t, b, open("b"), api.ErrFull)
	mustRefuse(t, b, open(of('a', 13)), api.ErrFull)
	for _, name := range b.Accounts {
		mustRefuse(t, b, open(name), api.ErrThere)
	}
	for _, name := range noNames() {
		mustRefuse(t, b, open(name), api.ErrArg)
	}
}

// P9.1: so much more, of an asset that the account has and of one that it has not.
func TestGive(t *testing.T) {
	b := market(t)
	mustFund(t, b, give("bob", "gold", 3),
		fund("ann", "gold", 7), fund("bob", "gold", 5), fund("bob", "salt", 5), fund("cy", "gold", 1), fund("cy", "wool", 9))
	mustFund(t, b, give("ann", "wool", 1),
		fund("ann", "gold", 7), fund("ann", "wool", 1), fund("bob", "gold", 2), fund("bob", "salt", 5), fund("cy", "gold", 1), fund("cy", "wool", 9))
	mustFund(t, b, give("cy", "zinc", 1<<50),
		fund("ann", "gold", 7), fund("bob", "gold", 2), fund("bob", "salt", 5), fund("cy", "gold", 1), fund("cy", "wool", 9), fund("cy", "zinc", 1<<50))
	mustFund(t, b, give("ann", "ale", 4),
		fund("ann", "ale", 4), fund("ann", "gold", 7), fund("bob", "gold", 2), fund("bob", "salt", 5), fund("cy", "gold", 1), fund("cy", "wool", 9))
	for _, name := range names() {
		mustFund(t, opened(t, New(3), "ann"), give("ann", name, 1), fund("ann", name, 1))
		mustFund(t, opened(t, New(3), name), give(name, "gold", 1), fund(name, "gold", 1))
	}
}

// P9.1: amounts from 1 to MaxAmount, whether they come at once or in parts.
func TestGiveAmounts(t *testing.T) {
	b := opened(t, New(0), "ann", "bob")
	for _, amount := range []int{1, 2, 255, 256, 1 << 32, 1<<50 - 1, 1 << 50} {
		mustFund(t, b, give("ann", "gold", amount), fund("ann", "gold", amount))
	}
	mustFund(t, given(t, b, fund("ann", "gold", 1)), give("ann", "gold", 1<<50-1), fund("ann", "gold", 1<<50))
	mustFund(t, given(t, b, fund("ann", "gold", 1<<50-1)), give("bob", "gold", 1), fund("ann", "gold", 1<<50-1), fund("bob", "gold", 1))
}

// P9.1: an amount that is none and an asset that is no name come ahead of all else.
func TestArguments(t *testing.T) {
	crowded := given(t, market(t), fund("ann", "zinc", 1<<50))
	for _, b := range []api.Book{New(0), market(t), crowded} {
		for _, who := range []string{"ann", "zed", ""} {
			for _, amount := range noAmounts() {
				for _, asset := range []string{"gold", "zinc", "tin", ""} {
					mustRefuse(t, b, give(who, asset, amount), api.ErrArg)
					mustRefuse(t, b, take(who, asset, amount), api.ErrArg)
					mustRefuse(t, b, move(who, "bob", asset, amount), api.ErrArg)
					mustRefuse(t, b, move(who, "zed", asset, amount), api.ErrArg)
					mustRefuse(t, b, move(who, who, asset, amount), api.ErrArg)
				}
			}
			for _, asset := range noNames() {
				for _, amount := range []int{1, 1 << 50} {
					mustRefuse(t, b, give(who, asset, amount), api.ErrArg)
					mustRefuse(t, b, take(who, asset, amount), api.ErrArg)
					mustRefuse(t, b, move(who, "bob", asset, amount), api.ErrArg)
					mustRefuse(t, b, move(who, "zed", asset, amount), api.ErrArg)
				}
				mustBalance(t, b, who, asset, 0, api.ErrArg)
			}
		}
	}
}

// P9.1: no account comes ahead of want of room, of too much, and of too little.
func TestNoAccount(t *testing.T) {
	b := given(t, market(t), fund("ann", "zinc", 1<<50))
	for _, who := range append(noNames(), "zed", "an", "anna", "Ann", "gold") {
		for _, asset := range []string{"gold", "zinc", "tin"} {
			for _, amount := range []int{1, 1 << 50} {
				mustRefuse(t, b, give(who, asset, amount), api.ErrNone)
				mustRefuse(t, b, take(who, asset, amount), api.ErrNone)
				mustRefuse(t, b, move(who, "bob", asset, amount), api.ErrNone)
				mustRefuse(t, b, move(who, who, asset, amount), api.ErrNone)
			}
			mustBalance(t, b, who, asset, 0, api.ErrNone)
		}
	}
	for _, whom := range append(noNames(), "zed", "an", "anna", "Ann", "gold") {
		mustRefuse(t, b, move("ann", whom, "gold", 7), api.ErrNone)
		mustRefuse(t, b, move("ann", whom, "gold", 8), api.ErrFunds)
		mustRefuse(t, b, move("ann", whom, "tin", 1), api.ErrFunds)
	}
}

// P9.1: the assets that there are, in Funds and in escrows that are Held, whoever has them.
func TestGiveFull(t *testing.T) {
	b := market(t)
	gold, wool := escrow("gold", 1, api.Held), escrow("wool", 1, api.Held)
	zinc, tin := escrow("zinc", 1, api.Held), escrow("tin", 1, api.Held)
	for _, x := range []struct {
		why  string
		b    api.Book
		full bool
	}{
		{"three in Funds", b, false},
		{"four in Funds", given(t, b, fund("ann", "zinc", 1)), true},
		{"three in Funds, one held", holding(b, zinc), true},
		{"three in Funds, one held twice", holding(b, zinc, zinc), true},
		{"three in Funds, those held", holding(b, gold, wool), false},
		{"three in Funds, one redeemed", holding(b, escrow("zinc", 1, api.Redeemed)), false},
		{"three in Funds, one refunded", holding(b, escrow("zinc", 1, api.Refunded)), false},
		{"three in Funds, one of no state", holding(b, escrow("zinc", 1, api.None)), false},
		{"two in Funds, two held", given(t, holding(opened(t, New(0), "ann", "bob"), gold, zinc), fund("ann", "wool", 1), fund("bob", "salt", 1)), true},
		{"four held", holding(opened(t, New(0), "ann"), gold, wool, zinc, tin), true},
		{"three held", holding(opened(t, New(0), "ann"), gold, wool, zinc), false},
		{"none", opened(t, New(0), "ann"), false},
	} {
		for _, asset := range []string{"ale", "iron", "zzz", "gol", "goldd"} {
			if x.full {
				mustRefuse(t, x.b, give("ann", asset, 1), api.ErrFull)
				mustRefuse(t, x.b, give("ann", asset, 1<<50), api.ErrFull)
			} else if _, e := Give(x.b, "ann", asset, 1); e != api.OK {
				t.Errorf("%s: Give of %s: %d", x.why, asset, e)
			}
		}
		for _, f := range stockOf(x.b) {
			if _, e := Give(x.b, "ann", f.Asset, 1); e != api.OK {
				t.Errorf("%s: Give of %s that is there: %d", x.why, f.Asset, e)
			}
		}
	}
	if api.MaxAssets != 4 {
		t.Errorf("%d assets", api.MaxAssets)
	}
}

// stockOf is all that there is, worked out by the words of P9.2.
func stockOf(b api.Book) []api.Fund {
	list := slices.Clone(b.Funds)
	for _, e := range b.Escrows {
		if e.State == 1 {
			list = append(list, fund("", e.Spec.Arcs[e.Arc].Asset, e.Spec.Arcs[e.Arc].Amount))
		}
	}
	return list
}

// P9.1: room for one more asset is there again, once the last of another one is gone.
func TestRoomAgain(t *testing.T) {
	b := given(t, market(t), fund("ann", "zinc", 2))
	mustRefuse(t, b, give("ann", "tin", 1), api.ErrFull)
	b, _ = Take(b, "ann", "zinc", 1)
	mustRefuse(t, b, give("ann", "tin", 1), api.ErrFull)
	b, _ = Move(b, "ann", "bob", "zinc", 1)
	mustRefuse(t, b, give("ann", "tin", 1), api.ErrFull)
	b, _ = Take(b, "bob", "zinc", 1)
	given(t, b, fund("ann", "tin", 1))
}

// P9.1: no Total is above MaxAmount, whoever has it, and what is Held counts.
func TestGiveBig(t *testing.T) {
	b := opened(t, New(0), "ann", "bob", "cy")
	b = given(t, b, fund("ann", "gold", 100), fund("bob", "gold", 20), fund("bob", "salt", 1<<50))
	for _, x := range []struct {
		b    api.Book
		room int
	}{
		{b, 1<<50 - 120},
		{holding(b, escrow("gold", 3, api.Held), escrow("gold", 4, api.Held)), 1<<50 - 127},
		{holding(b, escrow("gold", 3, api.Redeemed), escrow("gold", 4, api.Refunded), escrow("gold", 4, api.None)), 1<<50 - 120},
		{holding(b, escrow("wool", 3, api.Held)), 1<<50 - 120},
	} {
		for _, who := range []string{"ann", "bob", "cy"} {
			mustRefuse(t, x.b, give(who, "gold", x.room+1), api.ErrBig)
			mustRefuse(t, x.b, give(who, "gold", 1<<50), api.ErrBig)
			mustRefuse(t, x.b, give(who, "salt", 1), api.ErrBig)
			c, e := Give(x.b, who, "gold", x.room)
			if e != api.OK || Total(c, "gold") != 1<<50 {
				t.Errorf("Give of all that there is room for: %d, %d", Total(c, "gold"), e)
			}
			mustRefuse(t, c, give(who, "gold", 1), api.ErrBig)
		}
	}
	all := holding(opened(t, New(0), "ann"), escrow("gold", 1<<50, api.Held))
	mustRefuse(t, all, give("ann", "gold", 1), api.ErrBig)
}

// P9.1: so much less; a Fund of which all is taken is none any more.
func TestTake(t *testing.T) {
	b := market(t)
	mustFund(t, b, take("ann", "gold", 6),
		fund("ann", "gold", 1), fund("bob", "gold", 2), fund("bob", "salt", 5), fund("cy", "gold", 1), fund("cy", "wool", 9))
	mustFund(t, b, take("ann", "gold", 7),
		fund("bob", "gold", 2), fund("bob", "salt", 5), fund("cy", "gold", 1), fund("cy", "wool", 9))
	mustFund(t, b, take("bob", "salt", 5),
		fund("ann", "gold", 7), fund("bob", "gold", 2), fund("cy", "gold", 1), fund("cy", "wool", 9))
	mustFund(t, b, take("cy", "wool", 9),
		fund("ann", "gold", 7), fund("bob", "gold", 2), fund("bob", "salt", 5), fund("cy", "gold", 1))
	great := given(t, opened(t, New(0), "ann"), fund("ann", "gold", 1<<50))
	mustFund(t, great, take("ann", "gold", 1<<50))
	mustFund(t, great, take("ann", "gold", 1<<50-1), fund("ann", "gold", 1))
}

func TestTakeRefuses(t *testing.T) {
	b := holding(market(t), escrow("gold", 50, api.Held), escrow("tin", 50, api.Held))
	for _, f := range b.Funds {
		mustRefuse(t, b, take(f.Account, f.Asset, f.Amount+1), api.ErrFunds)
		mustRefuse(t, b, take(f.Account, f.Asset, 1<<50), api.ErrFunds)
	}
	mustRefuse(t, b, take("ann", "salt", 1), api.ErrFunds)
	mustRefuse(t, b, take("ann", "tin", 1), api.ErrFunds)
	mustRefuse(t, b, take("ann", "zinc", 1), api.ErrFunds)
	mustRefuse(t, opened(t, New(0), "ann"), take("ann", "gold", 1), api.ErrFunds)
}

// P9.1: from the one to the other, whether that one has some already or not.
func TestMove(t *testing.T) {
	b := market(t)
	mustFund(t, b, move("ann", "bob", "gold", 3),
		fund("ann", "gold", 4), fund("bob", "gold", 5), fund("bob", "salt", 5), fund("cy", "gold", 1), fund("cy", "wool", 9))
	mustFund(t, b, move("ann", "cy", "gold", 7),
		fund("bob", "gold", 2), fund("bob", "salt", 5), fund("cy", "gold", 8), fund("cy", "wool", 9))
	mustFund(t, b, move("cy", "ann", "wool", 9),
		fund("ann", "gold", 7), fund("ann", "wool", 9), fund("bob", "gold", 2), fund("bob", "salt", 5), fund("cy", "gold", 1))
	mustFund(t, b, move("bob", "cy", "salt", 1),
		fund("ann", "gold", 7), fund("bob", "gold", 2), fund("bob", "salt", 4), fund("cy", "gold", 1), fund("cy", "salt", 1), fund("cy", "wool", 9))
}

// P9.1: a Move asks for no room: neither of as many assets as may be, nor of as much of one.
func TestMoveOfAllThereMayBe(t *testing.T) {
	b := opened(t, New(0), "ann", "bob")
	b = given(t, b, fund("ann", "a", 1), fund("ann", "b", 1<<50), fund("ann", "c", 1), fund("ann", "d", 1))
	mustFund(t, b, move("ann", "bob", "b", 1<<50), fund("ann", "a", 1), fund("ann", "c", 1), fund("ann", "d", 1), fund("bob", "b", 1<<50))
	mustFund(t, b, move("ann", "bob", "b", 1), fund("ann", "a", 1), fund("ann", "b", 1<<50-1), fund("ann", "c", 1), fund("ann", "d", 1), fund("bob", "b", 1))
	mustFund(t, b, move("ann", "bob", "d", 1), fund("ann", "a", 1), fund("ann", "b", 1<<50), fund("ann", "c", 1), fund("bob", "d", 1))
}

// P9.1: to itself nothing changes, but what it has not got it does not move.
func TestMoveToItself(t *testing.T) {
	b := market(t)
	for _, f := range b.Funds {
		for amount := 1; amount <= f.Amount; amount++ {
			mustFund(t, b, move(f.Account, f.Account, f.Asset, amount), b.Funds...)
		}
		mustRefuse(t, b, move(f.Account, f.Account, f.Asset, f.Amount+1), api.ErrFunds)
	}
	mustRefuse(t, b, move("ann", "ann", "salt", 1), api.ErrFunds)
	mustRefuse(t, b, move("ann", "ann", "gold", 0), api.ErrArg)
	mustRefuse(t, b, move("zed", "zed", "gold", 1), api.ErrNone)
}

func TestMoveRefuses(t *testing.T) {
	b := holding(market(t), escrow("gold", 50, api.Held))
	for _, f := range b.Funds {
		for _, whom := range b.Accounts {
			mustRefuse(t, b, move(f.Account, whom, f.Asset, f.Amount+1), api.ErrFunds)
			mustRefuse(t, b, move(f.Account, whom, f.Asset, 1<<50), api.ErrFunds)
		}
	}
	mustRefuse(t, b, move("ann", "bob", "salt", 1), api.ErrFunds)
	mustRefuse(t, b, move("ann", "bob", "zinc", 1), api.ErrFunds)
}

// P9.1: what it has; nothing is no error.
func TestBalance(t *testing.T) {
	b := holding(market(t), escrow("gold", 50, api.Held), escrow("zinc", 50, api.Held))
	for _, f := range b.Funds {
		mustBalance(t, b, f.Account, f.Asset, f.Amount, api.OK)
	}
	for _, who := range b.Accounts {
		for _, asset := range append(names()[:4], "zinc", "gol", "goldd", of('n', 16)) {
			mustBalance(t, b, who, asset, 0, api.OK)
		}
	}
	mustBalance(t, b, "ann", "salt", 0, api.OK)
	mustBalance(t, given(t, b, fund("ann", "zinc", 1<<50-50)), "ann", "zinc", 1<<50-50, api.OK)
	mustBalance(t, New(0), "ann", "gold", 0, api.ErrNone)
	mustBalance(t, opened(t, New(0), "ann"), "ann", "gold", 0, api.OK)
}

// P9.1: Funds rise by Account, then Asset, as bytes, whatever came first; joined they would stand otherwise.
func TestFundsRise(t *testing.T) {
	accounts := []string{"\x00", "\x00\x00", "B", "a", "a\x00", "ab", "b", of('n', 15), of('n', 16), "\u00e9", "\xfe", "\xff"}
	assets := []string{"\x00z", "Z", "a", "\xff"}
	var want []api.Fund
	for i, account := range accounts {
		for j, asset := range assets {
			want = append(want, fund(account, asset, 1+10*i+j))
		}
	}
	random := rand.New(rand.NewSource(1))
	for range 200 {
		b := New(0)
		for _, i := range random.Perm(len(accounts)) {
			b = opened(t, b, accounts[i])
		}
		for _, i := range random.Perm(len(want)) {
			b = given(t, b, want[i])
		}
		if !slices.Equal(b.Funds, want) {
			t.Fatalf("Funds are %v", b.Funds)
		}
		for _, f := range want {
			mustBalance(t, b, f.Account, f.Asset, f.Amount, api.OK)
		}
		left := slices.Clone(want)
		for _, i := range random.Perm(len(want)) {
			var e api.Errno
			if b, e = Take(b, want[i].Account, want[i].Asset, want[i].Amount); e != api.OK {
				t.Fatalf("Take of %v: %d", want[i], e)
			}
			left = slices.DeleteFunc(left, func(f api.Fund) bool { return f == want[i] })
			if !slices.Equal(b.Funds, left) {
				t.Fatalf("Funds are %v, want %v", b.Funds, left)
			}
		}
	}
}

// P9.2: of all Funds, and of escrows that are Held.
func TestTotal(t *testing.T) {
	b := market(t)
	for asset, want := range map[string]int{"gold": 10, "salt": 5, "wool": 9, "zinc": 0, "": 0, "gol": 0, "goldd": 0, "ann": 0, of('n', 17): 0} {
		mustTotal(t, b, asset, want)
	}
	h := holding(b, escrow("gold", 100, api.Held), escrow("zinc", 30, api.Held), escrow("gold", 1000, api.Held),
		escrow("gold", 1<<20, api.Redeemed), escrow("gold", 1<<21, api.Refunded), escrow("gold", 1<<22, api.None), escrow("gold", 1<<23, 4), escrow("gold", 1<<24, -1))
	for asset, want := range map[string]int{"gold": 1110, "salt": 5, "wool": 9, "zinc": 30, "other": 0, "another": 0, "": 0} {
		mustTotal(t, h, asset, want)
	}
	for state := -2; state <= 5; state++ {
		want := 0
		if state == 1 {
			want = 8
		}
		mustTotal(t, holding(New(0), escrow("gold", 8, state)), "gold", want)
	}
	for arc, asset := range []string{"other", "gold", "another"} {
		e := escrow("gold", 8, api.Held)
		e.Arc = arc
		for i, a := range e.Spec.Arcs {
			want := 0
			if i == arc {
				want = a.Amount
			}
			mustTotal(t, holding(New(0), e), a.Asset, want)
		}
		if e.Spec.Arcs[arc].Asset != asset {
			t.Errorf("arc %d", arc)
		}
	}
	mustTotal(t, New(0), "gold", 0)
	mustTotal(t, holding(given(t, opened(t, New(0), "ann"), fund("ann", "gold", 1<<49)), escrow("gold", 1<<49, api.Held)), "gold", 1<<50)
}

// Every call ends, also where an escrow is of an arc that is not there: it holds nothing.
func TestNoSuchArc(t *testing.T) {
	for _, arc := range []int{-1, 3, 4, math.MaxInt, math.MinInt} {
		e := escrow("gold", 8, api.Held)
		e.Arc = arc
		b := holding(market(t), e, api.Escrow{State: api.Held})
		mustTotal(t, b, "gold", 10)
		mustFund(t, b, give("ann", "zinc", 1),
			fund("ann", "gold", 7), fund("ann", "zinc", 1), fund("bob", "gold", 2), fund("bob", "salt", 5), fund("cy", "gold", 1), fund("cy", "wool", 9))
	}
}

// whole is a book with something in each place.
func whole() api.Book {
	sig := of('s', 512)
	return api.Book{
		Number: 1, Time: 17,
		Accounts: []string{"cy", "ann"},
		Funds:    []api.Fund{fund("ann", "gold", 3), fund("cy", "salt", 4)},
		Escrows: []api.Escrow{{
			Spec: api.Spec{
				ID: "pair",
				Parties: []api.Party{
					{Account: "ann", Keys: []string{of('a', 16), of('b', 16)}},
					{Account: "cy", Keys: []string{of('c', 16), of('d', 16)}},
				},
				Arcs:    []api.Arc{{From: 0, To: 1, Ledger: 1, Asset: "gold", Amount: 3}, {From: 1, To: 0, Ledger: 2, Asset: "salt", Amount: 5}},
				Leaders: []int{0, 1},
				Locks:   []string{of('g', 32), of('h', 32)},
				Start:   11, Delta: 13,
			},
			Arc: 1, State: api.Held,
			Keys: []api.Hashkey{{Lock: 0, Secret: "open", Path: []int{1, 0}, Sigs: []string{sig, sig}}, {Lock: 1, Secret: "shut", Path: []int{0, 1}, Sigs: []string{sig, sig}}},
		}, {State: api.Refunded}},
	}
}

// P9.2: alike are books that have all alike.
func TestSame(t *testing.T) {
	if !Same(whole(), whole()) || !Same(api.Book{}, api.Book{}) || !Same(whole(), roomy(whole())) {
		t.Error("alike")
	}
	empty := api.Book{Accounts: []string{}, Funds: []api.Fund{}, Escrows: []api.Escrow{}}
	if !Same(empty, api.Book{}) || !Same(api.Book{}, empty) {
		t.Error("nil and an empty list")
	}
	none := api.Book{Escrows: []api.Escrow{{Keys: []api.Hashkey{{}}}}}
	nothing := api.Book{Escrows: []api.Escrow{{
		Spec: api.Spec{Parties: []api.Party{}, Arcs: []api.Arc{}, Leaders: []int{}, Locks: []string{}},
		Keys: []api.Hashkey{{Path: []int{}, Sigs: []string{}}},
	}}}
	if !Same(none, nothing) || !Same(nothing, none) {
		t.Error("nil and an empty list, of an escrow")
	}
}

// changes are functions that make one part of a whole book otherwise.
func changes() []func(b *api.Book) {
	list := []func(b *api.Book){
		func(b *api.Book) { b.Number = 0 },
		func(b *api.Book) { b.Time = 16 },
		func(b *api.Book) { b.Accounts = nil },
		func(b *api.Book) { b.Accounts = b.Accounts[:1] },
		func(b *api.Book) { b.Accounts = append(b.Accounts, "bob") },
		func(b *api.Book) { b.Accounts[1] = "bob" },
		func(b *api.Book) { slices.Reverse(b.Accounts) },
		func(b *api.Book) { b.Funds = nil },
		func(b *api.Book) { b.Funds = b.Funds[:1] },
		func(b *api.Book) { b.Funds = append(b.Funds, fund("cy", "wool", 1)) },
		func(b *api.Book) { b.Funds[1].Account = "bob" },
		func(b *api.Book) { b.Funds[1].Asset = "tin" },
		func(b *api.Book) { b.Funds[1].Amount = 5 },
		func(b *api.Book) { slices.Reverse(b.Funds) },
		func(b *api.Book) { b.Escrows = nil },
		func(b *api.Book) { b.Escrows = b.Escrows[:1] },
		func(b *api.Book) { b.Escrows = append(b.Escrows, api.Escrow{}) },
		func(b *api.Book) { slices.Reverse(b.Escrows) },
		func(b *api.Book) { b.Escrows[1].State = api.Redeemed },
	}
	for _, change := range slices.Concat(escrowChanges(), swapChanges()) {
		list = append(list, func(b *api.Book) { change(&b.Escrows[0]) })
	}
	return list
}

func escrowChanges() []func(e *api.Escrow) {
	return []func(e *api.Escrow){
		func(e *api.Escrow) { e.Arc = 0 },
		func(e *api.Escrow) { e.State = api.Redeemed },
		func(e *api.Escrow) { e.Keys = nil },
		func(e *api.Escrow) { e.Keys = e.Keys[:1] },
		func(e *api.Escrow) { e.Keys = append(e.Keys, api.Hashkey{}) },
		func(e *api.Escrow) { slices.Reverse(e.Keys) },
		func(e *api.Escrow) { e.Keys[1] = api.Hashkey{} },
		func(e *api.Escrow) { e.Keys[1].Lock = 0 },
		func(e *api.Escrow) { e.Keys[1].Secret = "shut " },
		func(e *api.Escrow) { e.Keys[1].Path = nil },
		func(e *api.Escrow) { e.Keys[1].Path = e.Keys[1].Path[:1] },
		func(e *api.Escrow) { e.Keys[1].Path[1] = 2 },
		func(e *api.Escrow) { e.Keys[1].Sigs = nil },
		func(e *api.Escrow) { e.Keys[1].Sigs = e.Keys[1].Sigs[:1] },
		func(e *api.Escrow) { e.Keys[1].Sigs[1] = of('t', 512) },
	}
}

func swapChanges() []func(e *api.Escrow) {
	return []func(e *api.Escrow){
		func(e *api.Escrow) { e.Spec = api.Spec{} },
		func(e *api.Escrow) { e.Spec.ID = "pais" },
		func(e *api.Escrow) { e.Spec.Parties = e.Spec.Parties[:1] },
		func(e *api.Escrow) { e.Spec.Parties[1].Account = "bob" },
		func(e *api.Escrow) { e.Spec.Parties[1].Keys = nil },
		func(e *api.Escrow) { e.Spec.Parties[1].Keys[1] = of('e', 16) },
		func(e *api.Escrow) { e.Spec.Arcs = e.Spec.Arcs[:1] },
		func(e *api.Escrow) { e.Spec.Arcs[0].From = 2 },
		func(e *api.Escrow) { e.Spec.Arcs[0].To = 2 },
		func(e *api.Escrow) { e.Spec.Arcs[0].Ledger = 0 },
		func(e *api.Escrow) { e.Spec.Arcs[0].Asset = "tin" },
		func(e *api.Escrow) { e.Spec.Arcs[0].Amount = 4 },
		func(e *api.Escrow) { slices.Reverse(e.Spec.Leaders) },
		func(e *api.Escrow) { e.Spec.Locks[1] = of('i', 32) },
		func(e *api.Escrow) { e.Spec.Start = 12 },
		func(e *api.Escrow) { e.Spec.Delta = 14 },
	}
}

// P9.2: each part of a book otherwise.
func TestNotSame(t *testing.T) {
	for i, change := range changes() {
		b := whole()
		change(&b)
		if Same(b, whole()) || Same(whole(), b) {
			t.Errorf("change %d: the books are told to be alike", i)
		}
		if !Same(b, b) {
			t.Errorf("change %d: a book is not like itself", i)
		}
	}
}

// P9.2: what is only asked changes nothing, either.
func TestAskedIsNotChanged(t *testing.T) {
	b := roomy(holding(market(t), escrow("gold", 3, api.Held), escrow("tin", 3, api.Held)))
	was := memory(b)
	Total(b, "gold")
	Balance(b, "ann", "gold")
	Same(b, market(t))
	if !reflect.DeepEqual(memory(b), was) {
		t.Error("the book that was handed in is changed")
	}
}

// P9.2, R3: books that are made of one book in turn do not write into one another.
func TestBooksOfOneBook(t *testing.T) {
	for _, base := range []api.Book{opened(t, New(0), "ann", "bob"), market(t), roomy(market(t))} {
		var books, were []api.Book
		for _, c := range []call{
			open("x"), open("y"), give("ann", "a", 1), give("ann", "z", 1), give("bob", "a", 2), give("bob", "z", 2),
			give("ann", "gold", 1), take("ann", "gold", 1), take("ann", "gold", 7), move("ann", "bob", "gold", 7), move("bob", "ann", "gold", 1), move("bob", "ann", "salt", 5),
		} {
			for _, b := range append(slices.Clone(books), base) {
				if next, e := c.do(b); e == api.OK {
					books, were = append(books, next), append(were, memory(next))
				}
				if len(books) > 300 {
					break
				}
			}
		}
		for i := range books {
			if !reflect.DeepEqual(memory(books[i]), were[i]) {
				t.Fatalf("book %d is changed", i)
			}
		}
	}
}

// P9.3: Move keeps each Total, whether it is taken or refused.
func TestMoveKeepsTotals(t *testing.T) {
	b := holding(given(t, market(t), fund("ann", "salt", 1<<50-5)), escrow("gold", 50, api.Held), escrow("zinc", 6, api.Held), escrow("wool", 7, api.Redeemed))
	assets := []string{"gold", "salt", "wool", "zinc", "tin", ""}
	for _, who := range []string{"ann", "bob", "cy", "zed", ""} {
		for _, whom := range []string{"ann", "bob", "cy", "zed", ""} {
			for _, asset := range assets {
				for _, amount := range []int{math.MinInt, -1, 0, 1, 2, 5, 7, 8, 9, 1<<50 - 5, 1 << 50, 1<<50 + 1, math.MaxInt} {
					c, _ := Move(b, who, whom, asset, amount)
					for _, a := range assets {
						if Total(c, a) != Total(b, a) {
							t.Fatalf("Move(%q, %q, %q, %d): the Total of %q is %d", who, whom, asset, amount, a, Total(c, a))
						}
					}
				}
			}
		}
	}
}

// shadow is a book of another make: what each account has of each asset.
type shadow struct {
	accounts []string
	has      map[[2]string]int
	held     []api.Escrow
}

func (s *shadow) total(asset string) int {
	sum := 0
	for key, amount := range s.has {
		if key[1] == asset {
			sum += amount
		}
	}
	for _, e := range s.held {
		if a := e.Spec.Arcs[e.Arc]; e.State == api.Held && a.Asset == asset {
			sum += a.Amount
		}
	}
	return sum
}

// crowded tells whether an asset is one too many.
func (s *shadow) crowded(asset string) bool {
	there := map[string]int{}
	for key, amount := range s.has {
		if amount > 0 {
			there[key[1]]++
		}
	}
	for _, e := range s.held {
		if e.State == api.Held {
			there[e.Spec.Arcs[e.Arc].Asset]++
		}
	}
	return there[asset] == 0 && len(there) >= 4
}

func (s *shadow) open(who string) api.Errno {
	switch {
	case len(who) < 1 || len(who) > 16:
		return api.ErrArg
	case slices.Contains(s.accounts, who):
		return api.ErrThere
	case len(s.accounts) == 12:
		return api.ErrFull
	}
	s.accounts = append(s.accounts, who)
	return api.OK
}

func (s *shadow) asked(who, asset string, amount int) api.Errno {
	switch {
	case len(asset) < 1 || len(asset) > 16 || amount < 1 || amount > 1<<50:
		return api.ErrArg
	case !slices.Contains(s.accounts, who):
		return api.ErrNone
	}
	return api.OK
}

func (s *shadow) give(who, asset string, amount int) api.Errno {
	if e := s.asked(who, asset, amount); e != api.OK {
		return e
	}
	if s.crowded(asset) {
		return api.ErrFull
	}
	if s.total(asset)+amount > 1<<50 {
		return api.ErrBig
	}
	s.has[[2]string{who, asset}] += amount
	return api.OK
}

func (s *shadow) move(who, whom, asset string, amount int, away bool) api.Errno {
	if e := s.asked(who, asset, amount); e != api.OK {
		return e
	}
	if s.has[[2]string{who, asset}] < amount {
		return api.ErrFunds
	}
	if !away && !slices.Contains(s.accounts, whom) {
		return api.ErrNone
	}
	s.has[[2]string{who, asset}] -= amount
	if !away {
		s.has[[2]string{whom, asset}] += amount
	}
	return api.OK
}

func (s *shadow) funds() []api.Fund {
	var list []api.Fund
	for key, amount := range s.has {
		if amount != 0 {
			list = append(list, fund(key[0], key[1], amount))
		}
	}
	slices.SortFunc(list, func(a, b api.Fund) int {
		return cmp.Or(cmp.Compare(a.Account, b.Account), cmp.Compare(a.Asset, b.Asset))
	})
	return list
}

// P9.1 to P9.3: long runs of calls answer what the shadow does, and leave what it has.
func TestLongRuns(t *testing.T) {
	random := rand.New(rand.NewSource(9))
	pick := func(list []string) string { return list[random.Intn(len(list))] }
	accounts := []string{"", "a", "aa", "ab", "b", "B", "c", "d", "e", "f", "g", "h", "i", "j", "\xff", of('n', 17)}
	assets := []string{"", "gold", "g", "salt", "Salt", "tin", "\x00", of('n', 17)}
	amounts := []int{-1, 0, 1, 2, 3, 5, 8, 1 << 48, 1 << 49, 1<<50 - 3, 1 << 50, 1<<50 + 1}
	seen := map[string]int{}
	for range 60 {
		number := random.Intn(4)
		s := &shadow{has: map[[2]string]int{}}
		b := New(number)
		if random.Intn(2) == 0 {
			s.held = []api.Escrow{escrow("gold", 1<<48, api.Held), escrow("wool", 2, 1+random.Intn(3))}
			b = holding(b, s.held...)
		}
		for range 250 {
			who, whom, asset, amount := pick(accounts), pick(accounts), pick(assets), amounts[random.Intn(len(amounts))]
			var c call
			var want api.Errno
			switch random.Intn(6) {
			case 0:
				c, want = open(who), s.open(who)
			case 1, 2:
				c, want = give(who, asset, amount), s.give(who, asset, amount)
			case 3:
				c, want = take(who, asset, amount), s.move(who, "", asset, amount, true)
			default:
				c, want = move(who, whom, asset, amount), s.move(who, whom, asset, amount, false)
			}
			seen[fmt.Sprint(c.why[:4], want)]++
			must(t, b, c, want, api.Book{Number: number, Accounts: s.accounts, Funds: s.funds(), Escrows: s.held})
			b, _ = c.do(b)
			mustTotal(t, b, asset, s.total(asset))
			if len(asset) > 0 && len(asset) < 17 && slices.Contains(s.accounts, who) {
				mustBalance(t, b, who, asset, s.has[[2]string{who, asset}], api.OK)
			}
		}
		if t.Failed() {
			return
		}
	}
	// Each call answers each of its errors somewhere on the way.
	for _, key := range []string{"Open0", "Open1", "Open5", "Open7", "Give0", "Give1", "Give4", "Give7", "Give3", "Take0", "Take1", "Take4", "Take6", "Move0", "Move1", "Move4", "Move6"} {
		if seen[key] == 0 {
			t.Errorf("%s is never answered: %v", key, seen)
		}
	}
}

// The search by halves finds each place in lists of each size, whatever they are of.
func TestSearch(t *testing.T) {
	for size := range 40 {
		var list []int
		for i := range size {
			list = append(list, 2*i)
		}
		for item := -1; item <= 2*size; item++ {
			place, there := search(list, item, cmp.Compare[int])
			if want, found := slices.BinarySearch(list, item); place != want || there != found {
				t.Errorf("%d among %d: %d, %v", item, size, place, there)
			}
		}
	}
}

// The search goes by halves: of a long list few items are asked.
func TestSearchAsksFew(t *testing.T) {
	list := make([]int, 1<<16)
	for i := range list {
		list[i] = i
	}
	for _, item := range []int{-1, 0, 1, 1 << 15, 1<<16 - 1, 1 << 16} {
		asked := 0
		search(list, item, func(a, b int) int { asked++; return cmp.Compare(a, b) })
		if asked > 20 {
			t.Errorf("%d: %d items are asked", item, asked)
		}
	}
}
