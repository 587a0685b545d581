package codec

import (
	"encoding/binary"
	"math"
	"math/rand"
	"slices"
	"strings"
	"testing"
)

// numbers are 0 and its neighbours, both ends, each power of two, and some whose eight bytes are all unlike.
func numbers() []int {
	all := []int{
		0, 1, -1, 2, -2, 127, 128, 255, 256, 257, 258, 65535, 65536, -128, -129, -256,
		math.MaxInt, math.MaxInt - 1, math.MinInt, math.MinInt + 1, math.MaxInt32, math.MinInt32,
		0x0102030405060708, 0x7f6e5d4c3b2a1908, -0x0123456789abcdef, 0x00ff10ef20df30cf,
	}
	for shift := range 63 {
		all = append(all, 1<<shift, -1<<shift, 1<<shift-1)
	}
	return all
}

func texts() []string {
	all := []string{"", "a", "ab", "abc", "\x00", "\xff", "\x00\xff\x00", "\xff\x00\xff\x80", "żółw", "12345678", "123456789"}
	every := make([]byte, 256)
	for i := range every {
		every[i] = byte(i)
	}
	return append(all, string(every), strings.Repeat("long ", 1000), strings.Repeat("\x00", 255), strings.Repeat("\xff", 256), strings.Repeat("x", 70000))
}

// numBytes says what the chapter asks by the library's means.
func numBytes(v int) string {
	return string(binary.BigEndian.AppendUint64(nil, uint64(v)))
}

// state fails the test if the reader has not just so many bytes left, or is bad though it must not be.
func state(t *testing.T, r *Reader, left int) {
	t.Helper()
	if r.Left() != left || r.Bad() {
		t.Fatalf("left %d, bad %v, want %d and false", r.Left(), r.Bad(), left)
	}
}

// staysBad fails the test if any call, in any order, tells of a bad reader anything but zero.
func staysBad(t *testing.T, r *Reader) {
	t.Helper()
	calls := []func() bool{
		func() bool { return r.Num() == 0 },
		func() bool { return r.Count(0) == 0 },
		func() bool { return r.Count(-1) == 0 },
		func() bool { return r.Count(math.MaxInt) == 0 },
		func() bool { return r.Text(0) == "" },
		func() bool { return r.Text(-1) == "" },
		func() bool { return r.Text(math.MaxInt) == "" },
		func() bool { return r.Left() == 0 },
	}
	if !r.Bad() || r.Left() != 0 {
		t.Fatalf("bad %v, left %d, want true and 0", r.Bad(), r.Left())
	}
	for _, i := range []int{0, 1, 2, 3, 4, 5, 6, 7, 3, 0, 6, 4, 2, 7, 1, 5} {
		if !calls[i]() || !r.Bad() || r.Left() != 0 {
			t.Fatalf("call %d of a bad reader: bad %v, left %d, or an answer that is not zero", i, r.Bad(), r.Left())
		}
	}
}

func TestP31NumIsEightBytesTheHighestFirst(t *testing.T) {
	for _, v := range numbers() {
		if got := Num(v); got != numBytes(v) {
			t.Errorf("Num(%d) = %x, want %x", v, got, numBytes(v))
		}
	}
	for v, want := range map[int]string{
		0:                  "\x00\x00\x00\x00\x00\x00\x00\x00",
		1:                  "\x00\x00\x00\x00\x00\x00\x00\x01",
		-1:                 "\xff\xff\xff\xff\xff\xff\xff\xff",
		-2:                 "\xff\xff\xff\xff\xff\xff\xff\xfe",
		math.MaxInt:        "\x7f\xff\xff\xff\xff\xff\xff\xff",
		math.MinInt:        "\x80\x00\x00\x00\x00\x00\x00\x00",
		0x0102030405060708: "\x01\x02\x03\x04\x05\x06\x07\x08",
	} {
		if got := Num(v); got != want {
			t.Errorf("Num(%d) = %x, want %x", v, got, want)
		}
	}
}

func TestP31TextIsItsSizeAndItsBytes(t *testing.T) {
	if got := Text("a"); len(got) != 9 || got != "\x00\x00\x00\x00\x00\x00\x00\x01a" {
		t.Errorf("Text of a = %q", got)
	}
	for _, s := range texts() {
		if got := Text(s); got != numBytes(len(s))+s {
			t.Errorf("Text of %d bytes: %d bytes that are not its size and they", len(s), len(got))
		}
	}
}

func TestP32NumTakesEightBytesAndNoMore(t *testing.T) {
	for _, v := range numbers() {
		for _, rest := range []string{"", "\x00", "1234567", "12345678", "123456789"} {
			r := New(numBytes(v) + rest)
			state(t, r, 8+len(rest))
			if got := r.Num(); got != v {
				t.Errorf("Num = %d, want %d", got, v)
			}
			state(t, r, len(rest))
		}
	}
}

func TestP32NumOfFewerBytesIsBad(t *testing.T) {
	for size := range 8 {
		for _, fill := range []string{"\x00", "\x01", "\xff"} {
			r := New(strings.Repeat(fill, size))
			state(t, r, size)
			if got := r.Num(); got != 0 {
				t.Errorf("Num of %d bytes = %d", size, got)
			}
			staysBad(t, r)
		}
	}
	r := New("12345678" + "1234567")
	r.Num()
	state(t, r, 7)
	if got := r.Num(); got != 0 {
		t.Errorf("Num of 7 bytes behind a number = %d", got)
	}
	staysBad(t, r)
}

func TestP32CountIsFromZeroToMost(t *testing.T) {
	mosts := []int{0, 1, 2, 5, 255, 256, 1 << 32, math.MaxInt - 1, math.MaxInt, -1, -2, math.MinInt}
	for _, most := range mosts {
		counts := []int{0, 1, 2, -1, -2, most - 1, most, math.MaxInt, math.MinInt}
		if most < math.MaxInt {
			counts = append(counts, most+1)
		}
		for _, v := range counts {
			r := New(numBytes(v) + "rest of it")
			state(t, r, 18)
			got := r.Count(most)
			if v < 0 || v > most {
				if got != 0 {
					t.Errorf("Count(%d) of %d = %d, want 0", most, v, got)
				}
				staysBad(t, r)
				continue
			}
			if got != v {
				t.Errorf("Count(%d) of %d = %d", most, v, got)
			}
			state(t, r, 10)
		}
	}
}

func TestP32CountOfFewerBytesIsBad(t *testing.T) {
	for size := range 8 {
		for _, most := range []int{0, 3, math.MaxInt, -1} {
			r := New(strings.Repeat("\x00", size))
			if got := r.Count(most); got != 0 {
				t.Errorf("Count(%d) of %d bytes = %d", most, size, got)
			}
			staysBad(t, r)
		}
	}
}

func TestP32TextTakesItsBytesAndNoMore(t *testing.T) {
	for _, s := range texts() {
		for _, most := range []int{len(s), len(s) + 1, math.MaxInt} {
			for _, rest := range []string{"", "\x00", "and more"} {
				r := New(numBytes(len(s)) + s + rest)
				state(t, r, 8+len(s)+len(rest))
				if got := r.Text(most); got != s {
					t.Errorf("Text(%d) of %d bytes: %d bytes, or others", most, len(s), len(got))
				}
				state(t, r, len(rest))
			}
		}
	}
}

func TestP32TextOfMoreThanMostIsBad(t *testing.T) {
	for _, s := range texts() {
		for _, most := range []int{len(s) - 1, -1, math.MinInt} {
			r := New(numBytes(len(s)) + s + "rest")
			if got := r.Text(most); got != "" {
				t.Errorf("Text(%d) of %d bytes = %q", most, len(s), got)
			}
			staysBad(t, r)
		}
	}
}

func TestP32TextWhoseBytesAreNotThereIsBad(t *testing.T) {
	for _, x := range []struct {
		size, there int
	}{
		{1, 0}, {3, 2}, {3, 0}, {8, 7}, {256, 255}, {1 << 32, 3}, {1 << 62, 0}, {math.MaxInt, 9},
		{math.MaxInt - 7, 20}, {-1, 5}, {math.MinInt, 5},
	} {
		for _, most := range []int{math.MaxInt, x.size} {
			r := New(numBytes(x.size) + strings.Repeat("b", x.there))
			if got := r.Text(most); got != "" {
				t.Errorf("Text(%d) of %d bytes with %d there = %q", most, x.size, x.there, got)
			}
			staysBad(t, r)
		}
	}
	for size := range 8 {
		r := New(strings.Repeat("\x00", size))
		if got := r.Text(math.MaxInt); got != "" {
			t.Errorf("Text of %d bytes in all = %q", size, got)
		}
		staysBad(t, r)
	}
}

func TestP32BadIsToldOnlyOfWhatWasRead(t *testing.T) {
	r := New("")
	state(t, r, 0)
	r = New(numBytes(1))
	if r.Num() != 1 {
		t.Error("not the number")
	}
	state(t, r, 0)
	state(t, r, 0)
	r.Num()
	staysBad(t, r)
}

func TestP32ReadersAreApart(t *testing.T) {
	s := numBytes(7) + numBytes(8)
	one, other := New(s), New(s)
	if one.Num() != 7 || one.Num() != 8 || one.Num() != 0 {
		t.Error("the one reader")
	}
	staysBad(t, one)
	state(t, other, 16)
	if other.Num() != 7 || other.Num() != 8 {
		t.Error("the other reader")
	}
	state(t, other, 0)
}

// item is a number, a count or a text, as it is written and read again.
type item struct {
	kind int
	num  int
	text string
}

const (
	numItem = iota
	countItem
	textItem
)

func (x item) written() string {
	if x.kind == textItem {
		return Text(x.text)
	}
	return Num(x.num)
}

// read is what the reader answers where the item stands; most is by over more than the item needs.
func (x item) read(r *Reader, over int) item {
	switch x.kind {
	case numItem:
		return item{kind: numItem, num: r.Num()}
	case countItem:
		return item{kind: countItem, num: r.Count(x.num + over)}
	}
	return item{kind: textItem, text: r.Text(len(x.text) + over)}
}

func someItems(source *rand.Rand) []item {
	all := make([]item, source.Intn(8))
	for i := range all {
		text := make([]byte, source.Intn(20))
		source.Read(text)
		switch source.Intn(3) {
		case numItem:
			all[i] = item{kind: numItem, num: int(source.Uint64())}
		case countItem:
			all[i] = item{kind: countItem, num: int(source.Uint64() >> (2 + source.Intn(60)))}
		default:
			all[i] = item{kind: textItem, text: string(text)}
		}
	}
	return all
}

func written(items []item) string {
	all := ""
	for _, x := range items {
		all += x.written()
	}
	return all
}

func TestP33WhatIsWrittenIsRead(t *testing.T) {
	for _, v := range numbers() {
		if r := New(Num(v)); r.Num() != v || r.Bad() || r.Left() != 0 {
			t.Errorf("Num of %d is not read", v)
		}
	}
	for _, s := range texts() {
		if r := New(Text(s)); r.Text(len(s)) != s || r.Bad() || r.Left() != 0 {
			t.Errorf("Text of %d bytes is not read", len(s))
		}
	}
	source := rand.New(rand.NewSource(3))
	for range 300 {
		items := someItems(source)
		all := written(items)
		r := New(all + "behind")
		left := len(all) + 6
		for i, x := range items {
			state(t, r, left)
			if got := x.read(r, i%2); got != x {
				t.Fatalf("item %d of %v is read as %v", i, items, got)
			}
			left -= len(x.written())
		}
		state(t, r, 6)
	}
}

func TestP33WhatIsCutIsReadUpToTheCut(t *testing.T) {
	items := []item{
		{kind: numItem, num: 0x0102030405060708}, {kind: textItem, text: "abc\x00\xff"}, {kind: textItem},
		{kind: countItem, num: 3}, {kind: numItem, num: math.MinInt}, {kind: textItem, text: "the last of them"},
	}
	all := written(items)
	for cut := range len(all) {
		r := New(all[:cut])
		end := 0
		for i, x := range items {
			end += len(x.written())
			if end > cut {
				if got := x.read(r, 1); got != (item{kind: x.kind}) {
					t.Errorf("cut at %d: item %d is read as %v", cut, i, got)
				}
				staysBad(t, r)
				break
			}
			if got := x.read(r, 1); got != x {
				t.Errorf("cut at %d: item %d is read as %v", cut, i, got)
			}
			state(t, r, cut-end)
		}
	}
}

func TestP33OneWayToWriteEach(t *testing.T) {
	ns, ts := numbers(), texts()
	slices.Sort(ns)
	for i, v := range slices.Compact(ns) {
		if i > 0 && Num(v) == Num(ns[i-1]) {
			t.Errorf("%d and %d are written alike", v, ns[i-1])
		}
	}
	for i, s := range ts {
		for _, other := range ts[:i] {
			if strings.HasPrefix(Text(s), Text(other)) {
				t.Errorf("a text of %d bytes begins with one of %d", len(s), len(other))
			}
		}
	}
}
