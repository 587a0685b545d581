package ledger

import (
	"encoding/binary"
	"math"
	"math/rand"
	"reflect"
	"slices"
	"strings"
	"testing"

	"handsel/api"
	"handsel/bank"
	"handsel/cmd"
	"handsel/fixture"
	"handsel/hashkey"
	"handsel/spec"
)

// number and text are what chapter 3 makes of them, by the library's means.
func number(v int) string { return string(binary.BigEndian.AppendUint64(nil, uint64(v))) }

func text(s string) string { return number(len(s)) + s }

// laid is a book in the order of P11.2.
func laid(b api.Book) string {
	out := number(b.Number) + number(b.Time) + number(len(b.Accounts))
	for _, account := range b.Accounts {
		out += text(account)
	}
	out += number(len(b.Funds))
	for _, f := range b.Funds {
		out += text(f.Account) + text(f.Asset) + number(f.Amount)
	}
	out += number(len(b.Escrows))
	for _, e := range b.Escrows {
		out += text(spec.Bytes(e.Spec)) + number(e.Arc) + number(e.State) + number(len(e.Keys))
		for _, k := range e.Keys {
			if len(k.Path) > 0 {
				out += number(1) + text(hashkey.Bytes(k))
			} else {
				out += number(0)
			}
		}
	}
	return out
}

// greatBook has as much of everything as a book may have that is read.
func greatBook() api.Book {
	b := api.Book{Number: math.MaxInt, Time: math.MaxInt}
	for i := range 12 {
		b.Accounts = append(b.Accounts, fixture.Of(byte('a'+i), 16))
		b.Escrows = append(b.Escrows, api.Escrow{Spec: fixture.GreatSwap(), Arc: i, State: 2, Keys: []api.Hashkey{fixture.GreatKey(), fixture.GreatKey(), fixture.GreatKey()}})
	}
	for i := range 48 {
		b.Funds = append(b.Funds, fixture.Fund(fixture.Of(byte('a'+i/4), 16), fixture.Of(byte('0'+i%4), 16), 1<<50))
	}
	return b
}

// oddBook is one that bank and escrow would not make, and that Read refuses nothing of.
func oddBook() api.Book {
	return api.Book{
		Number: -1, Time: math.MinInt,
		Accounts: []string{"zoe", "", "zoe", "\x00", fixture.Of('\xff', 16)},
		Funds:    []api.Fund{fixture.Fund("z", "z", 0), fixture.Fund("", "", -1), fixture.Fund("a", "b", math.MaxInt), fixture.Fund("a", "b", math.MinInt)},
		Escrows: []api.Escrow{
			{Spec: fixture.Three(), Arc: -1, State: 9, Keys: []api.Hashkey{{}, fixture.GreatKey(), {}}},
			{Spec: fixture.Three(), Arc: math.MaxInt, State: math.MinInt},
			{Spec: fixture.GreatSwap(), Arc: 12, Keys: []api.Hashkey{{}}},
			{Spec: fixture.GreatSwap(), Arc: 12, Keys: []api.Hashkey{{}}},
		},
	}
}

// written are books of each sort that P11.2 is asked of.
func written(t *testing.T) []api.Book {
	t.Helper()
	named, _ := bank.Open(bank.New(2), "ann")
	one := after(t, heldBook(t), both()[1])
	return []api.Book{
		{}, bank.New(3), fixture.At(bank.New(0), 1<<40), named, market(), heldBook(t), one, openBook(t), endedBook(t), after(t, fixture.At(one, 77), refunding("ann", "three", 0)), fullBook(t), oddBook(), greatBook(),
		{Accounts: []string{"ann", "bob"}}, {Funds: []api.Fund{fixture.Fund("a", "b", 3)}}, {Escrows: endedBook(t).Escrows[:1]},
	}
}

func mustNotRead(t *testing.T, s, why string) {
	t.Helper()
	if b, e := Read(s); e != api.ErrBytes || !reflect.DeepEqual(b, api.Book{}) {
		t.Errorf("%s: %d, %s", why, e, shown(b))
	}
}

// mustRead: the bytes are read, and are what is written of the book that is read.
func mustRead(t *testing.T, s, why string) {
	t.Helper()
	b, e := Read(s)
	if e != api.OK {
		t.Errorf("%s: %d", why, e)
	} else if got := Bytes(b); got != s {
		t.Errorf("%s: %x are written", why, got)
	}
}

// P11.2: there and back; nothing of the book is changed.
func TestThereAndBack(t *testing.T) {
	for i, b := range written(t) {
		b = fixture.Roomy(b)
		was := fixture.Memory(b)
		s := Bytes(b)
		if s != laid(b) {
			t.Errorf("book %d: %x are written, want %x", i, s, laid(b))
		}
		if got, e := Read(s); e != api.OK || !bank.Same(got, b) {
			t.Errorf("book %d: %d, %s is read, want %s", i, e, shown(got), shown(b))
		}
		if !reflect.DeepEqual(fixture.Memory(b), was) {
			t.Errorf("book %d is changed", i)
		}
	}
}

// P11.2: the bytes of small books, digit by digit.
func TestBytesByHand(t *testing.T) {
	zero := fixture.Of(0, 8)
	one := fixture.Of(0, 7) + "\x01"
	if got := Bytes(api.Book{}); got != fixture.Of(0, 40) {
		t.Errorf("nothing: %x", got)
	}
	if got := Bytes(api.Book{Number: 258, Time: -1}); got != fixture.Of(0, 6)+"\x01\x02"+fixture.Of(255, 8)+fixture.Of(0, 24) {
		t.Errorf("numbers: %x", got)
	}
	if got := Bytes(api.Book{Accounts: []string{"b", "a"}}); got != zero+zero+fixture.Of(0, 7)+"\x02"+one+"b"+one+"a"+zero+zero {
		t.Errorf("accounts: %x", got)
	}
	if got := Bytes(api.Book{Funds: []api.Fund{fixture.Fund("a", "xy", 7)}}); got != zero+zero+zero+one+one+"a"+fixture.Of(0, 7)+"\x02xy"+fixture.Of(0, 7)+"\x07"+zero {
		t.Errorf("funds: %x", got)
	}
	e := api.Escrow{Spec: fixture.Three(), Arc: 2, State: 3, Keys: []api.Hashkey{{Lock: 7, Secret: "of a lock that is not open"}, fixture.GreatKey()}}
	if got := Bytes(api.Book{Escrows: []api.Escrow{e}}); got != fixture.Of(0, 32)+one+text(spec.Bytes(fixture.Three()))+fixture.Of(0, 7)+"\x02"+fixture.Of(0, 7)+"\x03"+fixture.Of(0, 7)+"\x02"+zero+one+text(hashkey.Bytes(fixture.GreatKey())) {
		t.Errorf("escrows: %x", got)
	}
}

// P11.2: bytes cut anywhere are none, nor are those with more behind them, or ahead.
func TestCutBytes(t *testing.T) {
	for i, b := range written(t) {
		s := Bytes(b)
		step := 1 + len(s)/3000
		for k := 0; k < len(s); k += step {
			mustNotRead(t, s[:k], "cut")
			if t.Failed() {
				t.Fatalf("book %d of %d bytes, cut at %d", i, len(s), k)
			}
		}
		for k := max(0, len(s)-50); k < len(s); k++ {
			mustNotRead(t, s[:k], "cut at its end")
		}
		for _, more := range []string{"\x00", "x", fixture.Of(0, 8), fixture.Of(0, 40), number(1), s} {
			mustNotRead(t, s+more, "with more")
		}
		mustNotRead(t, "x"+s, "with one ahead")
		mustNotRead(t, s[1:], "without the first")
		mustRead(t, s, "whole")
	}
}

// P11.2: bytes with one turned are none, or those of another book.
func TestTurnedBytes(t *testing.T) {
	one := after(t, heldBook(t), both()[0])
	one.Escrows = one.Escrows[:1]
	for _, b := range []api.Book{{}, market(), one, oddBook()} {
		s := Bytes(b)
		read := 0
		for i := range s {
			for _, turn := range []byte{1, 0x80, 0xff} {
				turned := []byte(s)
				turned[i] ^= turn
				got, e := Read(string(turned))
				switch {
				case e == api.OK && (Bytes(got) != string(turned) || bank.Same(got, b)):
					t.Fatalf("byte %d turned by %d: %s", i, turn, shown(got))
				case e != api.OK && (e != api.ErrBytes || !reflect.DeepEqual(got, api.Book{})):
					t.Fatalf("byte %d turned by %d: %d, %s", i, turn, e, shown(got))
				case e == api.OK:
					read++
				}
			}
		}
		if read < 16*3 || read >= 3*len(s) {
			t.Errorf("%d of %d are read", read, 3*len(s))
		}
	}
}

// P11.2: there is a most of each list, and one more is too many, whether what it counts is there or not.
func TestCounts(t *testing.T) {
	escrow := text(spec.Bytes(fixture.Three())) + number(0) + number(1)
	for _, x := range []struct {
		why         string
		ahead, item string
		most        int
		behind      string
	}{
		{"Accounts", fixture.Of(0, 16), text("ann"), 12, fixture.Of(0, 16)},
		{"Funds", fixture.Of(0, 24), text("ann") + text("gold") + number(3), 48, fixture.Of(0, 8)},
		{"Escrows", fixture.Of(0, 32), escrow + number(0), 12, ""},
		{"Keys", fixture.Of(0, 32) + number(1) + escrow, number(0), 3, ""},
		{"Keys that open", fixture.Of(0, 32) + number(1) + escrow, number(1) + text(hashkey.Bytes(fixture.GreatKey())), 3, ""},
	} {
		for count := range x.most + 1 {
			mustRead(t, x.ahead+number(count)+strings.Repeat(x.item, count)+x.behind, x.why)
			mustNotRead(t, x.ahead+number(count+1)+strings.Repeat(x.item, count)+x.behind, x.why+", one less than is said")
			if count > 0 {
				mustNotRead(t, x.ahead+number(count-1)+strings.Repeat(x.item, count)+x.behind, x.why+", one more than is said")
			}
		}
		for _, count := range []int{x.most + 1, x.most + 2, 2 * x.most} {
			mustNotRead(t, x.ahead+number(count)+strings.Repeat(x.item, count)+x.behind, x.why+", too many")
		}
		for _, count := range []int{-1, -2, math.MinInt, math.MaxInt, 1 << 32, 1<<32 + 1, 1 << 56} {
			mustNotRead(t, x.ahead+number(count)+x.behind, x.why+", of no count")
			mustNotRead(t, x.ahead+number(count)+x.item+x.behind, x.why+", of no count")
		}
	}
}

// P11.2: names have at most as many bytes as names may have; they may be empty.
func TestNamesOfSizes(t *testing.T) {
	for size := range 40 {
		for why, s := range map[string]string{
			"an account":        fixture.Of(0, 16) + number(1) + text(fixture.Of('n', size)) + fixture.Of(0, 16),
			"a second account":  fixture.Of(0, 16) + number(2) + text("ann") + text(fixture.Of('n', size)) + fixture.Of(0, 16),
			"a fund's account":  fixture.Of(0, 24) + number(1) + text(fixture.Of('n', size)) + text("gold") + fixture.Of(0, 16),
			"a fund's asset":    fixture.Of(0, 24) + number(1) + text("ann") + text(fixture.Of('n', size)) + fixture.Of(0, 16),
			"both of a fund":    fixture.Of(0, 24) + number(1) + text(fixture.Of('n', size)) + text(fixture.Of('n', size)) + fixture.Of(0, 16),
			"one beside a fund": fixture.Of(0, 16) + number(1) + text(fixture.Of('n', size)) + number(1) + text("ann") + text("gold") + fixture.Of(0, 16),
		} {
			if size <= 16 {
				mustRead(t, s, why)
			} else {
				mustNotRead(t, s, why)
			}
		}
	}
	for _, size := range []int{-1, math.MinInt, math.MaxInt, 1 << 32} {
		mustNotRead(t, fixture.Of(0, 16)+number(1)+number(size)+fixture.Of('n', 16)+fixture.Of(0, 16), "of no size")
	}
}

// P11.2: swaps and hashkeys are such as their Read takes.
func TestPartsInside(t *testing.T) {
	swap, key := spec.Bytes(fixture.Three()), hashkey.Bytes(fixture.GreatKey())
	whole := func(swap, keys string) string {
		return fixture.Of(0, 32) + number(1) + text(swap) + number(0) + number(1) + keys
	}
	mustRead(t, whole(swap, number(1)+number(1)+text(key)), "as it may be")
	for why, other := range map[string]string{
		"empty": "", "cut": swap[:len(swap)-1], "with more": swap + "x", "turned": "x" + swap[1:], "a key's": key, "zeros": fixture.Of(0, 100), "without a Delta": swap[:len(swap)-8] + number(0), "twice": swap + swap,
		"as long as a command": fixture.Of('x', 1<<14), "longer than a command": fixture.Of('x', 1<<14+1), "very long": swap + fixture.Of(0, 1<<20),
	} {
		mustNotRead(t, whole(other, number(0)), "a swap, "+why)
		mustNotRead(t, whole(other, number(1)+number(0)), "a swap, "+why)
		mustNotRead(t, whole(swap, number(0))[:32]+number(2)+whole(other, number(0))[40:]+whole(swap, number(0))[40:], "the first of two swaps, "+why)
	}
	for why, other := range map[string]string{
		"empty": "", "cut": key[:len(key)-1], "with more": key + "x", "turned": "x" + key[1:], "a swap's": swap, "zeros": fixture.Of(0, 100), "of no path": number(0) + text("open") + number(0), "twice": key + key,
		"as long as a command": fixture.Of('x', 1<<14), "longer than a command": fixture.Of('x', 1<<14+1), "very long": key + fixture.Of(0, 1<<20),
	} {
		mustNotRead(t, whole(swap, number(1)+number(1)+text(other)), "a key, "+why)
		mustNotRead(t, whole(swap, number(2)+number(1)+text(other)+number(0)), "a key, "+why)
		mustNotRead(t, whole(swap, number(3)+number(1)+text(other)+number(1)+text(key)+number(0)), "the first of two keys, "+why)
	}
	for _, sign := range []int{-1, 2, 3, 255, 256, 1 << 32, 1<<32 + 1, math.MinInt, math.MaxInt} {
		mustNotRead(t, whole(swap, number(1)+number(sign)), "neither open nor not")
		mustNotRead(t, whole(swap, number(1)+number(sign)+text(key)), "neither open nor not")
	}
	mustNotRead(t, whole(swap, number(1)+number(0)+text(key)), "not open, with a key")
	mustNotRead(t, whole(swap, number(1)+number(1)), "open, without a key")
}

// P11.2: any bytes are a book's, or none.
func TestAnyBytes(t *testing.T) {
	random := rand.New(rand.NewSource(112))
	pieces := []string{number(0), number(0), number(0), number(1), number(1), number(2), number(3), number(4), number(13), number(-1), text(""), text("ann"), text(fixture.Of('n', 16)), text(fixture.Of('n', 17)), text(spec.Bytes(fixture.Three())), text(hashkey.Bytes(fixture.GreatKey())), "x"}
	read := 0
	for i := range 60000 {
		s := number(i) + number(-i)
		for range 3 + random.Intn(10) {
			s += pieces[random.Intn(len(pieces))]
		}
		if b, e := Read(s); e == api.OK {
			read++
			if Bytes(b) != s {
				t.Fatalf("%x are read as %s", s, shown(b))
			}
		} else if e != api.ErrBytes || !reflect.DeepEqual(b, api.Book{}) {
			t.Fatalf("%x: %d, %s", s, e, shown(b))
		}
	}
	if read < 50 {
		t.Errorf("%d are read", read)
	}
	for range 5000 {
		b := make([]byte, random.Intn(300))
		random.Read(b)
		mustNotRead(t, string(b), "drawn")
	}
}

// R3: what two calls answer is not shared, nor are lists of one answer.
func TestReadIsNew(t *testing.T) {
	for _, b := range written(t) {
		s := Bytes(b)
		one, _ := Read(s)
		two, _ := Read(s)
		for i := range one.Escrows {
			e := &one.Escrows[i]
			for j := range e.Keys {
				clear(e.Keys[j].Path)
				clear(e.Keys[j].Sigs)
			}
			for j := range e.Spec.Parties {
				clear(e.Spec.Parties[j].Keys)
			}
			clear(e.Keys)
			clear(e.Spec.Parties)
			clear(e.Spec.Arcs)
			clear(e.Spec.Leaders)
			clear(e.Spec.Locks)
			if i+1 < len(one.Escrows) && !reflect.DeepEqual(one.Escrows[i+1], two.Escrows[i+1]) {
				t.Errorf("escrow %d shares with the one ahead", i+1)
			}
		}
		clear(one.Accounts)
		clear(one.Funds)
		if again, e := Read(s); e != api.OK || !bank.Same(again, two) || !bank.Same(again, b) || Bytes(two) != s {
			t.Error("books that are read share what they have")
		}
	}
}

// P11.2: books that are not alike have not the same bytes.
func TestBytesTellBooksApart(t *testing.T) {
	list := written(t)
	for i, b := range list {
		for j, c := range list {
			if (Bytes(b) == Bytes(c)) != (i == j) {
				t.Errorf("bytes of %s and %s", shown(b), shown(c))
			}
		}
	}
}

func eachFund(b *api.Book, turn func(f *api.Fund)) {
	for i := range b.Funds {
		turn(&b.Funds[i])
	}
}

func eachEscrow(b *api.Book, turn func(e *api.Escrow)) {
	for i := range b.Escrows {
		turn(&b.Escrows[i])
	}
}

// R1, R2: of books that are read, whatever they tell, each call ends, and what it refuses it leaves.
func TestOddBooks(t *testing.T) {
	random := rand.New(rand.NewSource(113))
	commands := deal()
	numbers := []int{math.MinInt, -1, 0, 1, 2, 3, 4, 11, 12, math.MaxInt}
	pick := func() int { return numbers[random.Intn(len(numbers))] }
	turns := []func(b *api.Book){
		func(b *api.Book) { b.Number = pick() },
		func(b *api.Book) { b.Time = pick() },
		func(b *api.Book) { b.Accounts = b.Accounts[:random.Intn(len(b.Accounts)+1)] },
		func(b *api.Book) {
			b.Accounts = slices.Concat(b.Accounts, []string{"", "ann"})[:min(12, len(b.Accounts)+2)]
		},
		func(b *api.Book) { slices.Reverse(b.Funds) },
		func(b *api.Book) {
			b.Funds = slices.Concat(b.Funds[:min(20, len(b.Funds))], b.Funds[:min(20, len(b.Funds))])
		},
		func(b *api.Book) { eachFund(b, func(f *api.Fund) { f.Amount = pick() }) },
		func(b *api.Book) { eachFund(b, func(f *api.Fund) { f.Account = "" }) },
		func(b *api.Book) { eachFund(b, func(f *api.Fund) { f.Asset = "wool" }) },
		func(b *api.Book) { eachEscrow(b, func(e *api.Escrow) { e.Arc = pick() }) },
		func(b *api.Book) { eachEscrow(b, func(e *api.Escrow) { e.State = pick() }) },
		func(b *api.Book) { eachEscrow(b, func(e *api.Escrow) { e.Keys = nil }) },
		func(b *api.Book) { eachEscrow(b, func(e *api.Escrow) { e.Keys = []api.Hashkey{fixture.GreatKey()} }) },
		func(b *api.Book) {
			eachEscrow(b, func(e *api.Escrow) { e.Keys = []api.Hashkey{{}, {}, fixture.GreatKey()} })
		},
		func(b *api.Book) { eachEscrow(b, func(e *api.Escrow) { e.Spec = fixture.GreatSwap() }) },
	}
	list := written(t)[4:13]
	for range 800 {
		b, _ := Read(Bytes(list[random.Intn(len(list))]))
		for range 1 + random.Intn(4) {
			turns[random.Intn(len(turns))](&b)
		}
		odd, e := Read(Bytes(b))
		if e != api.OK || !bank.Same(odd, b) {
			t.Fatalf("%s is not read: %d", shown(b), e)
		}
		for range 10 {
			c, now := commands[random.Intn(len(commands))], pick()
			next, r := Apply(odd, now, c.Who, c)
			twin, heard := Run(b, now, c.Who, cmd.Bytes(c))
			if r.Err != api.OK && (r.N != 0 || !bank.Same(next, stamped(odd, now))) {
				t.Fatalf("%s at %d: %v, %s", told(c), now, r, shown(next))
			}
			if cmd.Bytes(c) != "" && (heard != r || !bank.Same(twin, next)) {
				t.Fatalf("%s at %d: %v, and of bytes %v", told(c), now, r, heard)
			}
			Bytes(next)
		}
	}
}
