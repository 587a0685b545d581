package sha

import (
	"crypto/sha256"
	"encoding/hex"
	"math/big"
	"strings"
	"testing"

	"handsel/api"
)

// text is n bytes, below 16 and above 127 among them, no block like the one ahead.
func text(n int) string {
	out := make([]byte, n)
	for i := range out {
		out[i] = byte(i*151 + i/64*7 + n)
	}
	return string(out)
}

// P1.1: the example of the chapter, and the texts of the standard.
func TestSumOfKnownTexts(t *testing.T) {
	known := []struct{ text, want string }{
		{"abc", "ba7816bf8f01cfea414140de5dae2223b00361a396177a9cb410ff61f20015ad"},
		{"abcdbcdecdefdefgefghfghighijhijkijkljklmklmnlmnomnopnopq", "248d6a61d20638b8e5c026930c3e6039a33ce45964ff2167f6ecedd419db06c1"},
		{"abcdefghbcdefghicdefghijdefghijkefghijklfghijklmghijklmnhijklmnoijklmnopjklmnopqklmnopqrlmnopqrsmnopqrstnopqrstu", "cf5b16a778af8380036ce59e7b0492370b249b11e8f07a51afac45037afee9d1"},
		{"The quick brown fox jumps over the lazy dog", "d7a8fbb307d7809469ca9abcb0082e4f8d5651e46d3cdb762d02d0bf37c9e592"},
		{strings.Repeat("a", 1000000), "cdc76e5c9914fb9281a1c7e284d73e67f1809a48a497200e046d39ccc7112cd0"},
	}
	for _, k := range known {
		if got := Hex(Sum(k.text)); got != k.want {
			t.Errorf("Sum(%.20q) is %s, not %s", k.text, got, k.want)
		}
	}
}

// P1.2: the digest of nothing.
func TestSumOfNothing(t *testing.T) {
	got := Hex(Sum(""))
	if !strings.HasPrefix(got, "e3b0c44298fc1c14") {
		t.Errorf("Sum of nothing begins with %.16s", got)
	}
	if got != "e3b0c44298fc1c149afbf4c8996fb92427ae41e4649b934ca495991b7852b855" {
		t.Errorf("Sum of nothing is %s", got)
	}
}

// P1.1: every length up to some blocks, so each one around a block's end (55,
// 56, 63, 64, 65, 119, 120, 127, 128 ..), against another maker of digests.
func TestSumOfEachLength(t *testing.T) {
	for n := range 5*64 + 1 {
		for _, s := range []string{text(n), strings.Repeat("\x00", n), strings.Repeat("\xff", n), strings.Repeat("\x80", n)} {
			want := sha256.Sum256([]byte(s))
			if got := Sum(s); got != string(want[:]) {
				t.Errorf("Sum of %d bytes is %x, not %x", n, got, want)
			}
		}
	}
}

// P1.1: lengths whose bits need two bytes, three, four.
func TestSumOfLongTexts(t *testing.T) {
	for _, n := range []int{1 << 13, 1<<13 - 1, 1 << 16, 1<<21 - 9, 1 << 21, 1<<21 + 1} {
		s := text(n)
		want := sha256.Sum256([]byte(s))
		if got := Sum(s); got != string(want[:]) {
			t.Errorf("Sum of %d bytes is %x, not %x", n, got, want)
		}
	}
}

// P1.1: the length takes all 8 bytes; a text whose bits pass 32 is too long to
// be made here, so its end alone is looked at.
func TestEndOfLongTexts(t *testing.T) {
	for _, size := range []int{1 << 29, 1<<31 - 64, 1<<31 - 1} {
		end := lastBlocks(text(size%64), size)
		want := new(big.Int).Mul(big.NewInt(int64(size)), big.NewInt(8)).FillBytes(make([]byte, 8))
		if got := end[len(end)-8:]; len(end)%64 != 0 || got != string(want) {
			t.Errorf("a text of %d bytes ends with %x, not %x", size, got, want)
		}
	}
}

// P1.1: bytes count, not letters: each byte alone, and texts that are no UTF-8.
func TestSumOfEachByte(t *testing.T) {
	for b := range 256 {
		s := string([]byte{byte(b)})
		for _, s := range []string{s, "a" + s, s + "\xc3"} {
			want := sha256.Sum256([]byte(s))
			if got := Sum(s); got != string(want[:]) {
				t.Errorf("Sum(%q) is %x, not %x", s, got, want)
			}
		}
	}
}

// P1.1: the tables are what the chapter says that they are made of.
func TestConstantsAreRoots(t *testing.T) {
	primes := firstPrimes(64)
	for i, w := range firstWords() {
		if want := rootBits(primes[i], 2); w != want {
			t.Errorf("word %d begins as %08x, not %08x", i, w, want)
		}
	}
	for i, c := range roundConstants() {
		if want := rootBits(primes[i], 3); c != want {
			t.Errorf("the constant of round %d is %08x, not %08x", i, c, want)
		}
	}
}

func firstPrimes(n int) []int64 {
	var out []int64
	for p := int64(2); len(out) < n; p++ {
		if big.NewInt(p).ProbablyPrime(0) {
			out = append(out, p)
		}
	}
	return out
}

// rootBits is the first 32 bits of the fraction of p's root of that degree: of
// the greatest whole r with r^degree <= p * 2^(32*degree) the lowest 32.
func rootBits(p int64, degree int64) uint32 {
	most := new(big.Int).Lsh(big.NewInt(p), uint(32*degree))
	low, high := big.NewInt(0), new(big.Int).Lsh(big.NewInt(p), 32)
	for one := big.NewInt(1); low.Cmp(high) < 0; {
		mid := new(big.Int).Add(low, high)
		mid.Add(mid, one).Rsh(mid, 1)
		if new(big.Int).Exp(mid, big.NewInt(degree), nil).Cmp(most) <= 0 {
			low = mid
		} else {
			high = mid.Sub(mid, one)
		}
	}
	return uint32(low.Uint64())
}

// P1.1: Short is the first 16 bytes of Sum.
func TestShort(t *testing.T) {
	if got := Hex(Short("abc")); got != "ba7816bf8f01cfea414140de5dae2223" {
		t.Errorf("Short of abc is %s", got)
	}
	if got := Hex(Short("")); got != "e3b0c44298fc1c149afbf4c8996fb924" {
		t.Errorf("Short of nothing is %s", got)
	}
	for n := range 200 {
		s := text(n)
		long, short := Sum(s), Short(s)
		if len(long) != api.Hash || len(short) != api.Short || !strings.HasPrefix(long, short) {
			t.Errorf("of %d bytes: Sum is %x, Short is %x", n, long, short)
		}
	}
}

// P1.1: two digits for each byte, bytes below 16 and above 127 too.
func TestHex(t *testing.T) {
	known := []struct{ text, want string }{
		{"", ""},
		{"\x00", "00"},
		{"\x01\x09\x0a\x0f", "01090a0f"},
		{"\x10\x7f\x80\xff", "107f80ff"},
		{"abc", "616263"},
		{"\u00e9", "c3a9"},
		{"\x00\xff\x00", "00ff00"},
	}
	for _, k := range known {
		if got := Hex(k.text); got != k.want {
			t.Errorf("Hex(%q) is %q, not %q", k.text, got, k.want)
		}
	}
	for b := range 256 {
		s := string([]byte{byte(b)})
		if got, want := Hex(s), hex.EncodeToString([]byte(s)); got != want {
			t.Errorf("Hex of byte %d is %q, not %q", b, got, want)
		}
	}
	for n := range 300 {
		s := text(n)
		if got, want := Hex(s), hex.EncodeToString([]byte(s)); got != want {
			t.Errorf("Hex of %d bytes is %q, not %q", n, got, want)
		}
	}
}

// R4: an answer hangs on the text alone, not on what was asked ahead of it.
func TestAnswersStay(t *testing.T) {
	var first []string
	for n := range 130 {
		first = append(first, Sum(text(n)))
	}
	for n := 129; n >= 0; n-- {
		if Sum(text(n)) != first[n] {
			t.Errorf("Sum of %d bytes is not what it was", n)
		}
	}
}
