package ots

import (
	"crypto/sha256"
	"encoding/hex"
	"math"
	"strconv"
	"strings"
	"testing"
)

func seeds() []string {
	return []string{"", "seed", "seed\x00", "\x00\xff\x80", strings.Repeat("long ", 100)}
}

func keys() []int { return []int{0, 1, 7, 127, 128, 254, 255} }

// noKeys are numbers of no key; those that are one once cut to a byte are among them.
func noKeys() []int {
	return []int{-1, 256, 257, 512, -256, 1 << 32, -1 << 32, math.MaxInt, math.MinInt}
}

func messages() []string {
	return []string{"", "x", "abc", "abd", "\x00", strings.Repeat("\xff", 64), strings.Repeat("long ", 100)}
}

// short, value, public, signature say what the chapter asks by another maker of digests.
func short(s string) string {
	sum := sha256.Sum256([]byte(s))
	return string(sum[:16])
}

func value(seed string, key, i, bit int) string {
	return short(seed + string([]byte{byte(key), byte(i), byte(bit)}))
}

func public(seed string, key int) string {
	all := ""
	for row := range 32 {
		all += short(value(seed, key, row/2, row%2))
	}
	return short(all)
}

// signedBits is the bits of a message's digest that are signed, as digits.
func signedBits(msg string) string {
	sum := sha256.Sum256([]byte(msg))
	digits := strconv.FormatInt(1<<16|int64(sum[0])<<8|int64(sum[1]), 2)
	return digits[1:]
}

func signature(seed string, key int, msg string) string {
	sig := ""
	for i, digit := range signedBits(msg) {
		bit := int(digit - '0')
		sig += value(seed, key, i, bit) + short(value(seed, key, i, 1-bit))
	}
	return sig
}

// turned is a text with one bit turned.
func turned(s string, bit int) string {
	b := []byte(s)
	b[bit/8] ^= 1 << (bit % 8)
	return string(b)
}

// P2.1: every value of some keys, i of 0 and of Bits - 1 among them.
func TestValueOfEachPlace(t *testing.T) {
	for _, seed := range seeds() {
		for _, key := range keys() {
			for row := range 32 {
				i, bit := row/2, row%2
				if got, want := Value(seed, key, i, bit), value(seed, key, i, bit); got != want {
					t.Errorf("Value(%.10q, %d, %d, %d) is %x, not %x", seed, key, i, bit, got, want)
				}
			}
		}
	}
}

// P2.1: what is no key, no place, no bit; alone and beside one another.
func TestValueOfNothing(t *testing.T) {
	refused := func(key, i, bit int) {
		for _, seed := range seeds() {
			if got := Value(seed, key, i, bit); got != "" {
				t.Errorf("Value(%.10q, %d, %d, %d) is %x", seed, key, i, bit, got)
			}
		}
	}
	for _, key := range noKeys() {
		refused(key, 0, 0)
		refused(key, 15, 1)
	}
	for _, i := range []int{-1, 16, 17, 255, 256, -256, 1 << 32, math.MaxInt, math.MinInt} {
		refused(0, i, 0)
		refused(255, i, 1)
	}
	for _, bit := range []int{-1, 2, 3, 255, 256, 257, -256, 1 << 32, math.MaxInt, math.MinInt} {
		refused(0, 0, bit)
		refused(255, 15, bit)
	}
	refused(-1, -1, -1)
	refused(256, 16, 2)
}

// P2.1: keys of every number but no other.
func TestPublic(t *testing.T) {
	seen := map[string]int{}
	for key := range 256 {
		got := Public("seed", key)
		if got != public("seed", key) {
			t.Errorf("Public of key %d is %x", key, got)
		}
		seen[got]++
	}
	if len(seen) != 256 {
		t.Errorf("256 keys have %d publics", len(seen))
	}
	for _, seed := range seeds() {
		for _, key := range keys() {
			if got, want := Public(seed, key), public(seed, key); got != want || len(got) != 16 {
				t.Errorf("Public(%.10q, %d) is %x, not %x", seed, key, got, want)
			}
		}
		for _, key := range noKeys() {
			if got := Public(seed, key); got != "" {
				t.Errorf("Public(%.10q, %d) is %x", seed, key, got)
			}
		}
	}
}

// P2.1, P2.2: answers worked out once by a program in another language.
func TestKnownAnswers(t *testing.T) {
	known := []struct {
		seed                      string
		key                       int
		msg, value, public, sumOf string
	}{
		{"seed", 7, "abc", "d317ccce988d90e3a198a396bc5114d1", "ab4558b31964d0b4ca58f5d56b94d40d", "0f8a6bfb02a56a1bce1315803a4214cc1107bd9fa03e0e88433ed44b26d24b08"},
		{"", 0, "", "8ce74af39f962cafab5e04907ce4ad2b", "19d5012e2f4c0e36292c43e2fbd429df", "419a124f0e9b0129e871550ee0f33a6958fa637fb43c255915c9c1fea1fa7e82"},
		{"\x00\xffalice", 255, strings.Repeat("x", 1000), "0d27957259f8c9a34b086f6e3c54e3ba", "c02f1e17a588e9289a33d9024f78333a", "4a7191147917e6199ca18ee40886d734548eaee7b946f0c0da2356a2d28f8a2c"},
	}
	for _, k := range known {
		if got := hex.EncodeToString([]byte(Value(k.seed, k.key, 15, 1))); got != k.value {
			t.Errorf("the last value of %q, %d is %s", k.seed, k.key, got)
		}
		if got := hex.EncodeToString([]byte(Public(k.seed, k.key))); got != k.public {
			t.Errorf("the public of %q, %d is %s", k.seed, k.key, got)
		}
		sum := sha256.Sum256([]byte(Sign(k.seed, k.key, k.msg)))
		if got := hex.EncodeToString(sum[:]); got != k.sumOf {
			t.Errorf("the signature of %q, %d has the digest %s", k.seed, k.key, got)
		}
	}
}

// P2.2: signatures of every key's number, and of none.
func TestSign(t *testing.T) {
	for _, seed := range seeds() {
		for _, msg := range messages() {
			for _, key := range keys() {
				got := Sign(seed, key, msg)
				if got != signature(seed, key, msg) || len(got) != 512 {
					t.Errorf("Sign(%.10q, %d, %.10q) is %x", seed, key, msg, got)
				}
			}
			for _, key := range noKeys() {
				if got := Sign(seed, key, msg); got != "" {
					t.Errorf("Sign(%.10q, %d, %.10q) is %x", seed, key, msg, got)
				}
			}
		}
	}
}

// P2.2: each of the bits that are signed as a 0 and as a 1.
func TestSignOfEachBit(t *testing.T) {
	seen := map[string]int{}
	for n := range 64 {
		msg := strconv.Itoa(n)
		if got := Sign("seed", 3, msg); got != signature("seed", 3, msg) {
			t.Errorf("Sign of %s is %x", msg, got)
		}
		for i, digit := range signedBits(msg) {
			seen[strconv.Itoa(i)+" "+string(digit)]++
		}
	}
	if len(seen) != 32 {
		t.Errorf("the messages have %d of 32 bits", len(seen))
	}
}

// P2.2, P2.3: what is signed is verified.
func TestSignedIsVerified(t *testing.T) {
	for _, seed := range seeds() {
		for _, key := range keys() {
			for _, msg := range messages() {
				if !Verify(Public(seed, key), msg, Sign(seed, key, msg)) {
					t.Errorf("the signature of %.10q by %.10q, %d is refused", msg, seed, key)
				}
			}
		}
	}
}

// P2.2: whoever verifies knows no seed: the secrets may be any texts of 16 bytes.
func TestVerifyOfSecretsWithoutSeed(t *testing.T) {
	secret := func(i, bit int) string { return strings.Repeat(string(rune('a'+2*i+bit)), 16) }
	all, sig := "", ""
	for i, digit := range signedBits("abc") {
		all += short(secret(i, 0)) + short(secret(i, 1))
		bit := int(digit - '0')
		sig += secret(i, bit) + short(secret(i, 1-bit))
	}
	if !Verify(short(all), "abc", sig) {
		t.Error("a signature by secrets of no seed is refused")
	}
}

// P2.3: any bit turned, of a value that is shown and of the digest beside it.
func TestTurnedBits(t *testing.T) {
	for _, msg := range []string{"abc", ""} {
		p, sig := Public("seed", 7), Sign("seed", 7, msg)
		if !Verify(p, msg, sig) {
			t.Fatalf("the signature of %q is refused", msg)
		}
		for bit := range 8 * len(sig) {
			if Verify(p, msg, turned(sig, bit)) {
				t.Errorf("the signature of %q with bit %d turned is taken", msg, bit)
			}
		}
	}
}

// P2.2: signatures of any length but the one.
func TestVerifyOfOtherLengths(t *testing.T) {
	p, sig := Public("seed", 7), Sign("seed", 7, "abc")
	for n := range len(sig) {
		if Verify(p, "abc", sig[:n]) {
			t.Errorf("the first %d bytes of a signature are taken", n)
		}
	}
	for _, more := range []string{"\x00", "x", sig[:32], sig} {
		if Verify(p, "abc", sig+more) || Verify(p, "abc", more+sig) {
			t.Errorf("a signature with %d bytes more is taken", len(more))
		}
	}
	if Verify("", "abc", "") || Verify("", "", "") || Verify(short(""), "abc", "") {
		t.Error("an empty signature is taken")
	}
}

// P2.2: a signature with a shown value and its digest exchanged, one with a
// digest for each value, one with two rows exchanged.
func TestVerifyOfOtherOrders(t *testing.T) {
	p, sig := Public("seed", 7), Sign("seed", 7, "abc")
	for at := 0; at < len(sig); at += 32 {
		shown, other := sig[at:at+16], sig[at+16:at+32]
		if Verify(p, "abc", sig[:at]+other+shown+sig[at+32:]) {
			t.Errorf("the pair at %d is taken the other way round", at)
		}
		if Verify(p, "abc", sig[:at]+short(shown)+other+sig[at+32:]) {
			t.Errorf("the digest of the value at %d is taken for it", at)
		}
		if at > 0 && Verify(p, "abc", sig[:at-32]+sig[at:at+32]+sig[at-32:at]+sig[at+32:]) {
			t.Errorf("the rows around %d are taken exchanged", at)
		}
	}
}

// P2.2: another key's signature, another seed's, another message's, another public.
func TestVerifyOfOthers(t *testing.T) {
	p, sig := Public("seed", 7), Sign("seed", 7, "abc")
	if !Verify(p, "abc", sig) {
		t.Fatal("the signature is refused")
	}
	for _, other := range []string{Sign("seed", 8, "abc"), Sign("seed", 6, "abc"), Sign("seed2", 7, "abc"), Sign("", 7, "abc"), Sign("seed", 7, "abd"), Sign("seed", 7, ""), strings.Repeat("\x00", 512)} {
		if Verify(p, "abc", other) {
			t.Errorf("the signature %.16x is taken", other)
		}
	}
	for _, msg := range []string{"", "abd", "ab", "abcd", "ABC"} {
		if Verify(p, msg, sig) {
			t.Errorf("the signature of abc is taken for %q", msg)
		}
	}
	for _, public := range []string{"", p[:15], p[1:], p + "x", p + p, Public("seed", 8), Public("seed", 256), Public("seed2", 7)} {
		if Verify(public, "abc", sig) {
			t.Errorf("the signature is taken with the public %x", public)
		}
	}
	for bit := range 8 * len(p) {
		if Verify(turned(p, bit), "abc", sig) {
			t.Errorf("the signature is taken with bit %d of the public turned", bit)
		}
	}
}

// P2.2: messages that differ in one alone of the bits that are signed, for
// each of the bits; and one that differs in none of them.
func TestVerifyHangsOnEachSignedBit(t *testing.T) {
	far := map[string]string{}
	for n := range 1 << 20 {
		msg := "message " + strconv.Itoa(n)
		far[signedBits(msg)] = msg
	}
	p, sig, digits := Public("seed", 7), Sign("seed", 7, "abc"), signedBits("abc")
	same, found := far[digits]
	if !found || Sign("seed", 7, same) != sig || !Verify(p, same, sig) {
		t.Errorf("%q has the same bits, and not the same signature", same)
	}
	for i := range 16 {
		other, found := far[digits[:i]+string('0'+'1'-digits[i])+digits[i+1:]]
		if !found || Verify(p, other, sig) || Verify(p, "abc", Sign("seed", 7, other)) {
			t.Errorf("%q, with bit %d turned, has the same signature", other, i)
		}
	}
}
