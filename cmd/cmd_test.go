package cmd

import (
	"encoding/binary"
	"encoding/hex"
	"fmt"
	"math"
	"math/rand"
	"reflect"
	"slices"
	"strings"
	"testing"

	"handsel/api"
	"handsel/fixture"
	"handsel/graph"
	"handsel/hashkey"
	"handsel/spec"
)

func of(b byte, size int) string { return strings.Repeat(string([]byte{b}), size) }

// swap is a ring of three parties with two leaders.
func swap() api.Spec {
	return api.Spec{
		ID: "ring",
		Parties: []api.Party{
			{Account: "ann", Keys: []string{of('a', 16), of('b', 16)}},
			{Account: "bob", Keys: []string{of('c', 16), of('d', 16)}},
			{Account: "cy", Keys: []string{of('e', 16), of('f', 16)}},
		},
		Arcs: []api.Arc{
			{From: 0, To: 1, Ledger: 0, Asset: "gold", Amount: 3},
			{From: 1, To: 2, Ledger: 1, Asset: "salt", Amount: 5},
			{From: 2, To: 0, Ledger: 2, Asset: "wool", Amount: 7},
		},
		Leaders: []int{0, 2},
		Locks:   []string{of('g', 32), of('h', 32)},
		Start:   11,
		Delta:   13,
	}
}

func key() api.Hashkey {
	return api.Hashkey{Lock: 1, Secret: "open", Path: []int{1, 2}, Sigs: []string{of('s', 512), of('t', 512)}}
}

// each is a command of each Kind, with just what it has.
func each() []api.Cmd {
	return []api.Cmd{
		{Kind: 1, Who: "ann"},
		{Kind: 2, Who: "ann", Whom: "bob", Asset: "gold", Amount: 7},
		{Kind: 3, Who: "ann", Spec: swap(), Arc: 2},
		{Kind: 4, Who: "ann", Swap: "ring", Arc: 1, Key: key()},
		{Kind: 5, Who: "ann", Swap: "ring", Arc: 4},
		{Kind: 6, Who: "ann", Swap: "ring", Arc: 5},
		{Kind: 7, Who: "ann", Asset: "gold"},
		{Kind: 8, Swap: "ring", Arc: 3},
	}
}

// greatest is each Kind with as much of everything as it may have.
func greatest() []api.Cmd {
	name := of('\xff', 16)
	return []api.Cmd{
		{Kind: 1, Who: name},
		{Kind: 2, Who: name, Whom: name, Asset: name, Amount: 1 << 50},
		{Kind: 3, Who: name, Spec: fixture.GreatSwap(), Arc: 11},
		{Kind: 4, Who: name, Swap: name, Arc: 11, Key: fixture.GreatKey()},
		{Kind: 5, Who: name, Swap: name, Arc: 11},
		{Kind: 6, Who: name, Swap: name, Arc: 11},
		{Kind: 7, Who: name, Asset: name},
		{Kind: 8, Swap: name, Arc: 11},
	}
}

// has is what each Kind has, in the order of its bytes, as P8.1 says it.
func has(kind int) []string {
	return [][]string{
		1: {"Who"},
		2: {"Who", "Whom", "Asset", "Amount"},
		3: {"Who", "Spec", "Arc"},
		4: {"Who", "Swap", "Arc", "Key"},
		5: {"Who", "Swap", "Arc"},
		6: {"Who", "Swap", "Arc"},
		7: {"Who", "Asset"},
		8: {"Swap", "Arc"},
	}[kind]
}

func names() []string { return []string{"Who", "Whom", "Asset", "Swap"} }

// set is a command with one field otherwise.
func set(c api.Cmd, field string, value any) api.Cmd {
	reflect.ValueOf(&c).Elem().FieldByName(field).Set(reflect.ValueOf(value))
	return c
}

func get(c api.Cmd, field string) any { return reflect.ValueOf(c).FieldByName(field).Interface() }

// number and text are what chapter 3 makes of them, by the library's means.
func number(v int) string { return string(binary.BigEndian.AppendUint64(nil, uint64(v))) }

func text(s string) string { return number(len(s)) + s }

// laid is the Kind of any command and what such a Kind has, in the order of P8.2, whether Check takes it or not.
func laid(c api.Cmd) string {
	out := number(c.Kind)
	for _, field := range has(c.Kind) {
		switch v := get(c, field).(type) {
		case string:
			out += text(v)
		case int:
			out += number(v)
		case api.Spec:
			out += text(spec.Bytes(v))
		case api.Hashkey:
			out += text(hashkey.Bytes(v))
		}
	}
	return out
}

// told is a command in a few words.
func told(c api.Cmd) string {
	return fmt.Sprintf("{%d, %.20q to %.20q, %d of %.20q, swap %.20q, arc %d, spec %.20q, key %d %.20q}",
		c.Kind, c.Who, c.Whom, c.Amount, c.Asset, c.Swap, c.Arc, c.Spec.ID, c.Key.Lock, c.Key.Secret)
}

func isZero(c api.Cmd) bool { return reflect.DeepEqual(c, api.Cmd{}) }

func mustTake(t *testing.T, c api.Cmd, why string) {
	t.Helper()
	if !Check(c) {
		t.Errorf("%s: Check says no to %s", why, told(c))
	}
	if got := Bytes(c); got != laid(c) || got == "" {
		t.Errorf("%s: Bytes of %s are %x", why, told(c), got)
	}
	if got, e := Read(laid(c)); e != api.OK || !Same(got, c) || !Same(c, got) {
		t.Errorf("%s: Read of %s is %s, %d", why, told(c), told(got), e)
	}
}

func mustRefuse(t *testing.T, c api.Cmd, why string) {
	t.Helper()
	if Check(c) {
		t.Errorf("%s: Check says yes to %s", why, told(c))
	}
	if got := Bytes(c); got != "" {
		t.Errorf("%s: Bytes of %s are %x", why, told(c), got)
	}
}

func mustNotRead(t *testing.T, b string, want api.Errno, why string) {
	t.Helper()
	if got, e := Read(b); e != want || !isZero(got) {
		t.Errorf("%s: Read is %s, %d", why, told(got), e)
	}
}

// P8.1, P8.2: each Kind with just what it has.
func TestEachKind(t *testing.T) {
	for _, c := range slices.Concat(each(), greatest()) {
		mustTake(t, c, "a Kind with what it has")
	}
}

// P8.1: the numbers of the Kinds are api's.
func TestKindsAreThoseOfTheDocument(t *testing.T) {
	for i, kind := range []int{api.Open, api.Move, api.Hold, api.Unlock, api.Redeem, api.Refund, api.Balance, api.State} {
		c := each()[i]
		if c.Kind != kind {
			t.Errorf("Kind %d, want %d", c.Kind, kind)
		}
	}
	if api.LastKind != len(each()) {
		t.Errorf("%d Kinds", api.LastKind)
	}
}

// P8.1: Kinds that there are not, with what any Kind has, and with nothing.
func TestNoOtherKind(t *testing.T) {
	for _, kind := range []int{0, -1, -2, -8, 9, 10, 17, 255, 256, 257, 1 << 32, 1<<32 + 1, math.MinInt, math.MinInt + 1, math.MaxInt} {
		for _, c := range append(each(), api.Cmd{}) {
			c.Kind = kind
			mustRefuse(t, c, "no Kind")
		}
		for _, c := range each() {
			mustNotRead(t, number(kind)+laid(c)[8:], api.ErrBytes, "no Kind")
		}
		mustNotRead(t, number(kind), api.ErrBytes, "no Kind")
	}
}

// P8.1: one Kind's parts under another Kind.
func TestPartsOfAnotherKind(t *testing.T) {
	for _, c := range each() {
		for kind := 1; kind <= 8; kind++ {
			d := set(c, "Kind", kind)
			if slices.Equal(has(kind), has(c.Kind)) {
				mustTake(t, d, "the same parts")
			} else {
				mustRefuse(t, d, "the parts of another Kind")
				mustNotRead(t, number(kind)+laid(c)[8:], api.ErrBytes, "the parts of another Kind")
			}
		}
	}
}

// P8.1: of a name each that is one and each that is none.
func TestNames(t *testing.T) {
	for _, c := range each() {
		for _, field := range names() {
			if !slices.Contains(has(c.Kind), field) {
				continue
			}
			for _, name := range []string{"x", " ", "\x00", "\xff\xfe", "ann", "bob", "ring", of('n', 15), of('n', 16), of('\xff', 16), "\u00e9\u00e9\u00e9\u00e9\u00e9\u00e9\u00e9\u00e9"} {
				mustTake(t, set(c, field, name), "a name as "+field)
			}
			for _, name := range []string{"", of('n', 17), of('n', 18), of('n', 255), of('n', 256+3), of('n', 1<<16+3), "\u00e9\u00e9\u00e9\u00e9\u00e9\u00e9\u00e9\u00e9\u00e9"} {
				d := set(c, field, name)
				mustRefuse(t, d, "no name as "+field)
				if len(name) < 1000 {
					mustNotRead(t, laid(d), api.ErrBytes, "no name as "+field)
				}
			}
		}
	}
}

// P8.1: names may be alike.
func TestNamesAlike(t *testing.T) {
	mustTake(t, api.Cmd{Kind: api.Move, Who: "a", Whom: "a", Asset: "a", Amount: 1}, "to itself")
	mustTake(t, api.Cmd{Kind: api.Redeem, Who: "a", Swap: "a"}, "who is as the swap")
}

// P8.1: an Amount from 1 to MaxAmount.
func TestAmount(t *testing.T) {
	c := each()[api.Move-1]
	for _, amount := range []int{1, 2, 255, 256, 1 << 32, 1<<50 - 1, 1 << 50} {
		mustTake(t, set(c, "Amount", amount), "an Amount")
	}
	for _, amount := range []int{0, -1, -7, -1 << 50, 1<<50 + 1, 1 << 51, 1 << 62, math.MaxInt, math.MinInt} {
		d := set(c, "Amount", amount)
		mustRefuse(t, d, "no Amount")
		mustNotRead(t, laid(d), api.ErrBytes, "no Amount")
	}
}

// P8.1: an Arc from 0 to MaxArcs - 1, whether a spec has so many or not.
func TestArc(t *testing.T) {
	for _, c := range each() {
		if !slices.Contains(has(c.Kind), "Arc") {
			continue
		}
		for arc := range 12 {
			mustTake(t, set(c, "Arc", arc), "an Arc")
		}
		for _, arc := range []int{-1, -2, 12, 13, 255, 256, 1 << 32, -1 << 32, math.MaxInt, math.MinInt} {
			d := set(c, "Arc", arc)
			mustRefuse(t, d, "no Arc")
			mustNotRead(t, laid(d), api.ErrBytes, "no Arc")
		}
	}
}

// wrongSwaps are specs that spec's Check refuses.
func wrongSwaps() []api.Spec {
	list := []api.Spec{{}}
	for _, change := range []func(s *api.Spec){
		func(s *api.Spec) { s.ID = "" },
		func(s *api.Spec) { s.ID = of('x', 17) },
		func(s *api.Spec) { s.Parties = s.Parties[:1] },
		func(s *api.Spec) { s.Parties = nil },
		func(s *api.Spec) { s.Parties[1].Account = "ann" },
		func(s *api.Spec) { s.Parties[1].Keys = nil },
		func(s *api.Spec) { s.Parties[1].Keys[0] = of('k', 15) },
		func(s *api.Spec) { s.Leaders = nil },
		func(s *api.Spec) { s.Leaders[0] = 3 },
		func(s *api.Spec) { s.Locks = s.Locks[:1] },
		func(s *api.Spec) { s.Locks[0] = of('l', 33) },
		func(s *api.Spec) { s.Arcs = nil },
		func(s *api.Spec) { s.Arcs[0].To = 0 },
		func(s *api.Spec) { s.Arcs[1] = s.Arcs[0] },
		func(s *api.Spec) { s.Arcs[2].Ledger = 4 },
		func(s *api.Spec) { s.Arcs[2].Amount = 0 },
		func(s *api.Spec) { s.Start = -1 },
		func(s *api.Spec) { s.Start = 1<<40 + 1 },
		func(s *api.Spec) { s.Delta = 0 },
		func(s *api.Spec) { s.Delta = 1<<20 + 1 },
	} {
		s := swap()
		change(&s)
		list = append(list, s)
	}
	return list
}

func TestSpec(t *testing.T) {
	c := each()[api.Hold-1]
	for i, s := range wrongSwaps() {
		if spec.Check(s) {
			t.Fatalf("spec's Check takes swap %d", i)
		}
		mustRefuse(t, set(c, "Spec", s), "a spec that is none")
	}
	// What spec's Check takes is taken, whether it may go on or not.
	s := swap()
	s.Arcs = s.Arcs[:1]
	if graph.Valid(s) {
		t.Fatal("it may go on")
	}
	mustTake(t, set(c, "Spec", s), "a spec that may not go on")
	mustTake(t, set(c, "Who", "zed"), "who is no party")
}

// wrongKeys are keys whose Bytes are empty.
func wrongKeys() []api.Hashkey {
	list := []api.Hashkey{{}}
	for _, change := range []func(k *api.Hashkey){
		func(k *api.Hashkey) { k.Lock = -1 },
		func(k *api.Hashkey) { k.Lock = 3 },
		func(k *api.Hashkey) { k.Secret = of('s', 65) },
		func(k *api.Hashkey) { k.Path = nil },
		func(k *api.Hashkey) { k.Path, k.Sigs = nil, nil },
		func(k *api.Hashkey) { k.Path[1] = 6 },
		func(k *api.Hashkey) { k.Path[0] = -1 },
		func(k *api.Hashkey) { k.Sigs = nil },
		func(k *api.Hashkey) { k.Sigs = k.Sigs[:1] },
		func(k *api.Hashkey) { k.Sigs[1] = of('s', 511) },
		func(k *api.Hashkey) { k.Sigs[1] = of('s', 513) },
		func(k *api.Hashkey) { k.Path, k.Sigs = make([]int, 7), slices.Repeat(k.Sigs[:1], 7) },
	} {
		k := key()
		change(&k)
		list = append(list, k)
	}
	return list
}

func TestKey(t *testing.T) {
	c := each()[api.Unlock-1]
	for i, k := range wrongKeys() {
		if hashkey.Bytes(k) != "" {
			t.Fatalf("key %d has bytes", i)
		}
		mustRefuse(t, set(c, "Key", k), "a key that is none")
	}
	// What has bytes is taken, whether it opens anything or not.
	k := key()
	k.Lock, k.Secret, k.Path = 0, "", []int{5, 5}
	mustTake(t, set(c, "Key", k), "a key that opens nothing")
}

// otherParts are values of each field; none of them is zero, and some may be nowhere.
func otherParts() map[string][]any {
	parts := map[string][]any{
		"Amount": {1, 9, -1, 1 << 50, math.MaxInt, math.MinInt},
		"Arc":    {1, 9, 11, 12, -1, math.MaxInt, math.MinInt},
		"Spec": {swap(), fixture.GreatSwap(), api.Spec{ID: "x"}, api.Spec{Parties: make([]api.Party, 1)}, api.Spec{Arcs: make([]api.Arc, 1)},
			api.Spec{Leaders: make([]int, 1)}, api.Spec{Locks: make([]string, 1)}, api.Spec{Start: 1}, api.Spec{Start: -1}, api.Spec{Delta: 1}, api.Spec{Delta: -1}},
		"Key": {key(), fixture.GreatKey(), api.Hashkey{Lock: 1}, api.Hashkey{Lock: -1}, api.Hashkey{Secret: "x"},
			api.Hashkey{Path: make([]int, 1)}, api.Hashkey{Sigs: make([]string, 1)}},
	}
	for _, field := range names() {
		parts[field] = []any{"x", "\x00", of('n', 16), of('n', 17)}
	}
	return parts
}

// P8.1: each field by itself that the Kind has not.
func TestWhatIsNotNamedIsZero(t *testing.T) {
	parts := otherParts()
	if len(parts) != reflect.TypeFor[api.Cmd]().NumField()-1 {
		t.Fatalf("%d fields", len(parts))
	}
	for _, c := range slices.Concat(each(), greatest()) {
		for field, values := range parts {
			if slices.Contains(has(c.Kind), field) {
				continue
			}
			for _, value := range values {
				mustRefuse(t, set(c, field, value), "a Kind that has no "+field)
			}
		}
	}
}

// P8.1: each thing that a Kind has, taken away; an Arc of 0 is one.
func TestWhatIsNamedIsThere(t *testing.T) {
	for _, c := range each() {
		for _, field := range has(c.Kind) {
			d := c
			reflect.ValueOf(&d).Elem().FieldByName(field).SetZero()
			if field == "Arc" {
				mustTake(t, d, "Arc 0")
			} else {
				mustRefuse(t, d, "no "+field)
				mustNotRead(t, laid(d), api.ErrBytes, "no "+field)
			}
		}
	}
}

// R3: an empty list is none.
func TestEmptyListsAreNone(t *testing.T) {
	empty := api.Cmd{
		Spec: api.Spec{Parties: []api.Party{}, Arcs: []api.Arc{}, Leaders: []int{}, Locks: []string{}},
		Key:  api.Hashkey{Path: []int{}, Sigs: []string{}},
	}
	for _, c := range each() {
		d := c
		if c.Kind != api.Hold {
			d.Spec = empty.Spec
		}
		if c.Kind != api.Unlock {
			d.Key = empty.Key
		}
		mustTake(t, d, "empty lists")
		if !Same(c, d) || !Same(d, c) {
			t.Errorf("%s is another with empty lists", told(c))
		}
	}
	if !Same(api.Cmd{}, empty) || !Same(empty, api.Cmd{}) {
		t.Error("no command is another with empty lists")
	}
}

// P8.2: bytes written out by hand.
func TestBytesWrittenOut(t *testing.T) {
	long := each()[api.Unlock-1].Key
	key := "00000000000000010000000000000004" + "6f70656e" + "000000000000000200000000000000010000000000000002" +
		"0000000000000200" + hex.EncodeToString([]byte(long.Sigs[0])) + "0000000000000200" + hex.EncodeToString([]byte(long.Sigs[1]))
	for i, want := range []string{
		"0000000000000001" + "0000000000000003616e6e",
		"0000000000000002" + "0000000000000003616e6e" + "0000000000000003626f62" + "0000000000000004676f6c64" + "0000000000000007",
		"0000000000000003" + "0000000000000003616e6e" + "00000000000001e8" + hex.EncodeToString([]byte(spec.Bytes(swap()))) + "0000000000000002",
		"0000000000000004" + "0000000000000003616e6e" + "000000000000000472696e67" + "0000000000000001" + "000000000000043c" + key,
		"0000000000000005" + "0000000000000003616e6e" + "000000000000000472696e67" + "0000000000000004",
		"0000000000000006" + "0000000000000003616e6e" + "000000000000000472696e67" + "0000000000000005",
		"0000000000000007" + "0000000000000003616e6e" + "0000000000000004676f6c64",
		"0000000000000008" + "000000000000000472696e67" + "0000000000000003",
	} {
		c := each()[i]
		if got := hex.EncodeToString([]byte(Bytes(c))); got != want {
			t.Errorf("Bytes of %s: %s, want %s", told(c), got, want)
		}
		b, err := hex.DecodeString(want)
		if err != nil {
			t.Fatal(err)
		}
		if got, e := Read(string(b)); e != api.OK || !Same(got, c) {
			t.Errorf("Read of %s: %s, %d", told(c), told(got), e)
		}
	}
}

// P8.2: no command has more than MaxBytes; Read takes the greatest.
func TestBytesAreAtMostMaxBytes(t *testing.T) {
	for _, c := range greatest() {
		if got := len(Bytes(c)); got == 0 || got > api.MaxBytes {
			t.Errorf("%s: %d bytes", told(c), got)
		}
	}
}

// P8.2, P8.3: Read answers the very command, and no field more.
func TestReadThereAndBack(t *testing.T) {
	for _, c := range slices.Concat(each(), greatest()) {
		got, e := Read(Bytes(c))
		if e != api.OK || !reflect.DeepEqual(got, c) {
			t.Errorf("Read of %s is %s, %d", told(c), told(got), e)
		}
		if Bytes(got) != Bytes(c) {
			t.Errorf("%s has other bytes", told(c))
		}
	}
}

// P8.2: bytes cut anywhere, from behind and from ahead.
func TestReadOfCutBytes(t *testing.T) {
	for _, c := range slices.Concat(each(), greatest()) {
		b := Bytes(c)
		for i := range b {
			mustNotRead(t, b[:i], api.ErrBytes, "cut behind")
			if i > 0 {
				mustNotRead(t, b[i:], api.ErrBytes, "cut ahead")
			}
		}
	}
	mustNotRead(t, "", api.ErrBytes, "no bytes")
}

// P8.2: bytes with more behind them.
func TestReadOfMoreBytes(t *testing.T) {
	for _, c := range slices.Concat(each(), greatest()) {
		b := Bytes(c)
		for _, more := range []string{"\x00", "x", number(0), number(1), text(""), text("x"), b} {
			mustNotRead(t, b+more, api.ErrBytes, "more behind")
			mustNotRead(t, more+b, api.ErrBytes, "more ahead")
		}
	}
}

// P8.2: each bit turned: what is read then has just these bytes.
func TestReadOfTurnedBytes(t *testing.T) {
	for _, c := range each() {
		b := []byte(Bytes(c))
		for bit := range 8 * len(b) {
			b[bit/8] ^= 1 << (bit % 8)
			mustFit(t, string(b))
			if got, e := Read(string(b)); e == api.OK && Same(got, c) {
				t.Errorf("bit %d of %s changes nothing", bit, told(c))
			}
			b[bit/8] ^= 1 << (bit % 8)
		}
	}
}

// mustFit fails where bytes are read as a command that has other ones, or are refused otherwise than by ErrBytes.
func mustFit(t *testing.T, b string) {
	t.Helper()
	c, e := Read(b)
	if e == api.OK && (Bytes(c) != b || !Check(c)) {
		t.Errorf("Read of %x is %s", b, told(c))
	}
	if e != api.OK && (e != api.ErrBytes || !isZero(c)) {
		t.Errorf("Read of %x is %s, %d", b, told(c), e)
	}
}

// P8.2: within the bytes a Spec, or a Key, that is none.
func TestReadOfWrongSpecAndKey(t *testing.T) {
	hold := func(s string) string { return number(3) + text("ann") + text(s) + number(0) }
	unlock := func(k string) string { return number(4) + text("ann") + text("ring") + number(0) + text(k) }
	for _, x := range []struct {
		name, inner, other string
		whole              func(string) string
	}{
		{"Spec", spec.Bytes(swap()), hashkey.Bytes(key()), hold},
		{"Key", hashkey.Bytes(key()), spec.Bytes(swap()), unlock},
	} {
		if _, e := Read(x.whole(x.inner)); e != api.OK {
			t.Errorf("%s: %d", x.name, e)
		}
		for i := range x.inner {
			mustNotRead(t, x.whole(x.inner[:i]), api.ErrBytes, x.name+" cut")
		}
		for _, wrong := range []string{x.inner + "x", x.inner + number(0), "x" + x.inner, x.inner + x.inner, x.other, text(x.inner), of('x', 100), of(0, 100)} {
			mustNotRead(t, x.whole(wrong), api.ErrBytes, "a "+x.name+" that is none")
		}
	}
	// A Spec, a Key that their Read alone refuses: all is there, and one number is too great.
	mustNotRead(t, hold(spec.Bytes(swap())[:len(spec.Bytes(swap()))-8]+number(1<<20+1)), api.ErrBytes, "a Delta too great")
	mustNotRead(t, unlock(number(3)+hashkey.Bytes(key())[8:]), api.ErrBytes, "a Lock too great")
}

// P8.2: sizes of texts that are not there.
func TestReadOfWrongSizes(t *testing.T) {
	for _, size := range []int{-1, 0, 2, 4, 16, 17, 1 << 14, 1 << 32, math.MaxInt, math.MinInt} {
		mustNotRead(t, number(1)+number(size)+"ann", api.ErrBytes, "a size of Who")
		mustNotRead(t, number(3)+text("ann")+number(size)+spec.Bytes(swap())+number(0), api.ErrBytes, "a size of Spec")
		mustNotRead(t, number(4)+text("ann")+text("ring")+number(0)+number(size)+hashkey.Bytes(key()), api.ErrBytes, "a size of Key")
	}
}

// P8.2: more than MaxBytes is ErrBig, whatever they are; just as many is not.
func TestReadOfManyBytes(t *testing.T) {
	for _, c := range each() {
		b := Bytes(c)
		mustNotRead(t, b+of(0, 1<<14-len(b)), api.ErrBytes, "just as many")
		mustNotRead(t, b+of(0, 1<<14+1-len(b)), api.ErrBig, "one too many")
		mustNotRead(t, b+of(0, 1<<15), api.ErrBig, "too many")
	}
	mustNotRead(t, of('x', 1<<14), api.ErrBytes, "just as many")
	for _, size := range []int{1<<14 + 1, 1<<14 + 2, 1 << 15, 1 << 16, 1 << 20} {
		mustNotRead(t, of('x', size), api.ErrBig, "too many")
		mustNotRead(t, of(0, size), api.ErrBig, "too many")
	}
	whole := number(1) + number(1<<14-16) + of('n', 1<<14-16)
	mustNotRead(t, whole, api.ErrBytes, "a name as long as all may be")
	mustNotRead(t, number(1)+number(1<<14-15)+of('n', 1<<14-15), api.ErrBig, "a name longer than all may be")
	mustNotRead(t, number(3)+text("ann")+text(of('s', 1<<14-35))+number(0), api.ErrBytes, "a Spec as long as all may be")
}

// P8.2: commands are alike if each part is.
func TestSame(t *testing.T) {
	full := api.Cmd{Kind: 2, Who: "a", Whom: "b", Asset: "c", Amount: 3, Swap: "d", Arc: 4, Spec: swap(), Key: key()}
	copied := api.Cmd{Kind: 2, Who: "a", Whom: "b", Asset: "c", Amount: 3, Swap: "d", Arc: 4, Spec: swap(), Key: key()}
	if !Same(full, copied) || !Same(full, full) || !Same(api.Cmd{}, api.Cmd{}) {
		t.Error("alike, and not the same")
	}
	for field, values := range otherParts() {
		if field == "Spec" {
			values = slices.Concat(values[1:], otherSwaps())
		}
		if field == "Key" {
			values = slices.Concat(values[1:], otherKeys())
		}
		for _, value := range append(values, reflect.Zero(reflect.TypeOf(values[0])).Interface()) {
			d := set(full, field, value)
			if Same(full, d) || Same(d, full) || !Same(d, d) {
				t.Errorf("%s otherwise: %s", field, told(d))
			}
		}
	}
	for _, kind := range []int{0, 1, 3, -2, 9, 1<<32 + 2, math.MinInt} {
		if d := set(full, "Kind", kind); Same(full, d) || Same(d, full) {
			t.Errorf("Kind %d otherwise", kind)
		}
	}
	for i, c := range each() {
		for j, d := range each() {
			if Same(c, d) != (i == j) {
				t.Errorf("Same of %s and %s", told(c), told(d))
			}
		}
	}
}

// otherSwaps are swap with one thing deep in it otherwise.
func otherSwaps() []any {
	var list []any
	for _, change := range []func(s *api.Spec){
		func(s *api.Spec) { s.ID = "rind" },
		func(s *api.Spec) { s.Parties[2].Account = "cyd" },
		func(s *api.Spec) { s.Parties[2].Keys[1] = of('z', 16) },
		func(s *api.Spec) { s.Parties[2].Keys = s.Parties[2].Keys[:1] },
		func(s *api.Spec) { s.Parties = s.Parties[:2] },
		func(s *api.Spec) { s.Arcs[2].From = 1 },
		func(s *api.Spec) { s.Arcs[2].To = 1 },
		func(s *api.Spec) { s.Arcs[2].Ledger = 3 },
		func(s *api.Spec) { s.Arcs[2].Asset = "wood" },
		func(s *api.Spec) { s.Arcs[2].Amount = 8 },
		func(s *api.Spec) { s.Arcs = s.Arcs[:2] },
		func(s *api.Spec) { s.Leaders[1] = 1 },
		func(s *api.Spec) { s.Leaders = s.Leaders[:1] },
		func(s *api.Spec) { s.Locks[1] = of('z', 32) },
		func(s *api.Spec) { s.Locks = s.Locks[:1] },
		func(s *api.Spec) { s.Start = 12 },
		func(s *api.Spec) { s.Delta = 14 },
	} {
		s := swap()
		change(&s)
		list = append(list, s)
	}
	return list
}

// otherKeys are key with one thing in it otherwise.
func otherKeys() []any {
	var list []any
	for _, change := range []func(k *api.Hashkey){
		func(k *api.Hashkey) { k.Lock = 0 },
		func(k *api.Hashkey) { k.Secret = "opem" },
		func(k *api.Hashkey) { k.Path[1] = 0 },
		func(k *api.Hashkey) { k.Path = k.Path[:1] },
		func(k *api.Hashkey) { k.Sigs[1] = of('u', 512) },
		func(k *api.Hashkey) { k.Sigs = k.Sigs[:1] },
	} {
		k := key()
		change(&k)
		list = append(list, k)
	}
	return list
}

// mayBe is Check by the words of P8.1, field by field.
func mayBe(c api.Cmd) bool {
	if c.Kind < 1 || c.Kind > 8 {
		return false
	}
	for _, field := range []string{"Who", "Whom", "Asset", "Amount", "Swap", "Arc", "Spec", "Key"} {
		fits := false
		if !slices.Contains(has(c.Kind), field) {
			fits = reflect.ValueOf(c).FieldByName(field).IsZero()
		} else {
			switch v := get(c, field).(type) {
			case string:
				fits = len(v) >= 1 && len(v) <= 16
			case int:
				fits = field == "Arc" && v >= 0 && v <= 11 || field == "Amount" && v >= 1 && v <= 1<<50
			case api.Spec:
				fits = spec.Check(v)
			case api.Hashkey:
				fits = hashkey.Bytes(v) != ""
			}
		}
		if !fits {
			return false
		}
	}
	return true
}

// P8.1 to P8.3: many commands with any fields, most of them what their Kind has.
func TestAnyCommands(t *testing.T) {
	random := rand.New(rand.NewSource(81))
	parts := otherParts()
	parts["Spec"] = append(parts["Spec"], wrongSwaps()[3])
	parts["Key"] = append(parts["Key"], wrongKeys()[3])
	taken := 0
	for range 20000 {
		c := api.Cmd{Kind: random.Intn(10)}
		for _, field := range []string{"Who", "Whom", "Asset", "Amount", "Swap", "Arc", "Spec", "Key"} {
			chance := 3
			if slices.Contains(has(min(c.Kind, 8)), field) {
				chance = 90
			}
			if random.Intn(100) < chance {
				c = set(c, field, parts[field][random.Intn(len(parts[field]))])
			}
		}
		if mayBe(c) {
			taken++
			mustTake(t, c, "drawn")
		} else {
			mustRefuse(t, c, "drawn")
		}
	}
	if taken < 1000 || taken > 19000 {
		t.Errorf("%d of 20000 may be", taken)
	}
}

// P8.2: any bytes are a command's, or none.
func TestAnyBytes(t *testing.T) {
	random := rand.New(rand.NewSource(82))
	pieces := []string{number(0), number(1), number(3), number(11), number(12), number(-1), text(""), text("ann"), text(of('n', 16)), text(of('n', 17)),
		text(spec.Bytes(swap())), text(hashkey.Bytes(key())), spec.Bytes(swap()), hashkey.Bytes(key()), "x", "\x00"}
	for range 50000 {
		b := number(random.Intn(10))
		for range random.Intn(5) {
			b += pieces[random.Intn(len(pieces))]
		}
		mustFit(t, b)
	}
	for range 5000 {
		b := make([]byte, random.Intn(200))
		random.Read(b)
		mustFit(t, string(b))
	}
}

// P8.3: commands that are not alike have not the same bytes.
func TestBytesTellCommandsApart(t *testing.T) {
	list := slices.Concat(each(), greatest())
	for _, s := range otherSwaps() {
		list = append(list, set(each()[api.Hold-1], "Spec", s))
	}
	for _, k := range otherKeys() {
		list = append(list, set(each()[api.Unlock-1], "Key", k))
	}
	for i, c := range list {
		for j, d := range list {
			if Check(c) && Check(d) && (Bytes(c) == Bytes(d)) != (i == j) {
				t.Errorf("bytes of %s and %s", told(c), told(d))
			}
		}
	}
}

// R3: nothing that is handed in is changed, and what two calls answer is not shared.
func TestNothingIsChangedOrShared(t *testing.T) {
	for i, c := range each() {
		d := each()[i]
		Check(c)
		b := Bytes(c)
		Same(c, d)
		if !reflect.DeepEqual(c, d) {
			t.Errorf("%s is changed", told(d))
		}
		one, _ := Read(b)
		two, _ := Read(b)
		spoil(&one)
		if !reflect.DeepEqual(two, c) || Bytes(c) != b {
			t.Errorf("%s is shared", told(c))
		}
	}
	for _, c := range []api.Cmd{{Kind: 0, Spec: swap(), Key: key()}, {Kind: 3, Spec: swap(), Key: key()}, {Kind: 4, Spec: swap(), Key: key()}} {
		Check(c)
		Bytes(c)
		if !reflect.DeepEqual(c.Spec, swap()) || !reflect.DeepEqual(c.Key, key()) {
			t.Errorf("%s is changed", told(c))
		}
	}
}

// spoil writes over every list of a command.
func spoil(c *api.Cmd) {
	for i := range c.Spec.Parties {
		clear(c.Spec.Parties[i].Keys)
	}
	clear(c.Spec.Parties)
	clear(c.Spec.Arcs)
	clear(c.Spec.Leaders)
	clear(c.Spec.Locks)
	clear(c.Key.Path)
	clear(c.Key.Sigs)
}

// R1: lists of any length end, where the Kind has them and where not.
func TestLongLists(t *testing.T) {
	s := api.Spec{ID: "long", Parties: make([]api.Party, 1<<20), Arcs: make([]api.Arc, 1<<20), Leaders: make([]int, 1<<20), Locks: make([]string, 1<<20), Delta: 1}
	k := api.Hashkey{Path: make([]int, 1<<20), Sigs: make([]string, 1<<20)}
	for _, c := range each() {
		mustRefuse(t, set(c, "Spec", s), "a long Spec")
		mustRefuse(t, set(c, "Key", k), "a long Key")
		mustRefuse(t, set(c, "Who", of('w', 1<<20)), "a long Who")
	}
}
