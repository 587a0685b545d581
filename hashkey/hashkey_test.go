package hashkey

import (
	"crypto/sha256"
	"encoding/binary"
	"encoding/hex"
	"fmt"
	"math"
	"math/rand"
	"reflect"
	"slices"
	"strconv"
	"strings"
	"testing"

	"handsel/api"
	"handsel/graph"
	"handsel/ots"
	"handsel/spec"
)

type step = [2]int

func seed(v int) string { return "seed " + strconv.Itoa(v) }

func secret(lock int) string { return "secret " + strconv.Itoa(lock) }

func digest(s string) string {
	sum := sha256.Sum256([]byte(s))
	return string(sum[:])
}

// swapOf is of so many parties, each with the keys of its seed, with those leaders, each with the secret of its lock.
func swapOf(parties int, leaders []int, steps ...step) api.Spec {
	s := api.Spec{ID: "swap", Leaders: slices.Clone(leaders), Start: 3, Delta: 7}
	for lock := range leaders {
		s.Locks = append(s.Locks, digest(secret(lock)))
	}
	for v := range parties {
		p := api.Party{Account: "p" + strconv.Itoa(v)}
		for lock := range leaders {
			p.Keys = append(p.Keys, ots.Public(seed(v), lock))
		}
		s.Parties = append(s.Parties, p)
	}
	for i, a := range steps {
		s.Arcs = append(s.Arcs, api.Arc{From: a[0], To: a[1], Ledger: i % api.MaxLedgers, Asset: "gold", Amount: i + 1})
	}
	return s
}

// swap is a ring of five parties and four arcs more; no lock has the number of its leader.
func swap() api.Spec {
	return swapOf(5, []int{2, 0, 3},
		step{0, 1}, step{1, 2}, step{2, 3}, step{3, 4}, step{4, 0}, step{1, 3}, step{2, 0}, step{4, 1}, step{0, 4})
}

// keyOf is the key that is signed along a path, from its end on, each by the own seed.
func keyOf(lock int, secret string, path ...int) api.Hashkey {
	k := api.Hashkey{Lock: lock, Secret: secret, Path: slices.Clone(path)}
	text := secret
	for i := len(path) - 1; i >= 0; i-- {
		text = ots.Sign(seed(path[i]), lock, text)
		k.Sigs = slices.Insert(k.Sigs, 0, text)
	}
	return k
}

// made is the key of a path by Make and Extend.
func made(s api.Spec, lock int, secret string, path ...int) api.Hashkey {
	end := len(path) - 1
	k := Make(s, lock, secret, seed(path[end]))
	for i := end - 1; i >= 0; i-- {
		k = Extend(s, k, path[i], seed(path[i]))
	}
	return k
}

func alike(a, b api.Hashkey) bool {
	return a.Lock == b.Lock && a.Secret == b.Secret && slices.Equal(a.Path, b.Path) && slices.Equal(a.Sigs, b.Sigs)
}

func isZero(k api.Hashkey) bool { return alike(k, api.Hashkey{}) }

func copied(k api.Hashkey) api.Hashkey {
	k.Path, k.Sigs = slices.Clone(k.Path), slices.Clone(k.Sigs)
	return k
}

// told is a key in a few words, for its bytes are no words.
func told(k api.Hashkey) string {
	return fmt.Sprintf("{lock %d, secret %.20q, path %v, sigs %.4x}", k.Lock, k.Secret, k.Path, k.Sigs)
}

// turned is a text with one bit turned.
func turned(s string, bit int) string {
	b := []byte(s)
	b[bit/8] ^= 1 << (bit % 8)
	return string(b)
}

// notBelow are numbers of nothing in a list of so many items.
func notBelow(n int) []int {
	return []int{-1, -2, n, n + 1, 255, 256, 1 << 32, -1 << 32, math.MaxInt, math.MinInt}
}

type wrongSwap struct {
	name  string
	apply func(s *api.Spec)
}

// refusedSwaps are changes of swap to what spec's Check says no to; the parties, arcs and locks that a key asks for are there still.
func refusedSwaps() []wrongSwap {
	return []wrongSwap{
		{"no ID", func(s *api.Spec) { s.ID = "" }},
		{"a Start below 0", func(s *api.Spec) { s.Start = -1 }},
		{"a Delta of 0", func(s *api.Spec) { s.Delta = 0 }},
		{"two accounts alike", func(s *api.Spec) { s.Parties[4].Account = s.Parties[0].Account }},
		{"a key that is missing", func(s *api.Spec) { s.Parties[4].Keys = s.Parties[4].Keys[:2] }},
		{"a leader that is no party", func(s *api.Spec) { s.Leaders[2] = 5 }},
		{"a lock more", func(s *api.Spec) { s.Locks = append(s.Locks, s.Locks[0]) }},
		{"a leader that is missing", func(s *api.Spec) { s.Leaders = s.Leaders[:2] }},
		{"an arc twice", func(s *api.Spec) { s.Arcs = append(s.Arcs, s.Arcs[0]) }},
		{"an arc to its own party", func(s *api.Spec) { s.Arcs[8].To = 0 }},
		{"an Amount of 0", func(s *api.Spec) { s.Arcs[8].Amount = 0 }},
		{"seven parties", func(s *api.Spec) { s.Parties = append(s.Parties, s.Parties[:2]...) }},
	}
}

// P7.1: a key of each lock: its Leader's, by the lock's own key; the secret may be any, and the seed.
func TestMake(t *testing.T) {
	s := swap()
	for lock, leader := range []int{2, 0, 3} {
		for _, secret := range []string{secret(lock), "", "x", "another", strings.Repeat("s", 64), strings.Repeat("s", 65), strings.Repeat("\xff", 1000)} {
			for _, seed := range []string{"", seed(leader), seed(1), "\x00", strings.Repeat("long ", 100)} {
				got := Make(s, lock, secret, seed)
				want := api.Hashkey{Lock: lock, Secret: secret, Path: []int{leader}, Sigs: []string{ots.Sign(seed, lock, secret)}}
				if !alike(got, want) {
					t.Errorf("Make(%d, %.10q, %.10q) is %s", lock, secret, seed, told(got))
				}
			}
		}
	}
}

// P7.1: locks that there are not, of swaps with one lock and more.
func TestMakeOfNoLock(t *testing.T) {
	for _, leaders := range [][]int{{0}, {1, 0}, {2, 0, 1}} {
		s := swapOf(3, leaders, step{0, 1}, step{1, 2}, step{2, 0})
		for _, lock := range notBelow(len(leaders)) {
			if got := Make(s, lock, secret(0), seed(0)); !isZero(got) {
				t.Errorf("Make of lock %d of %d is %s", lock, len(leaders), told(got))
			}
		}
		if got := Make(s, len(leaders)-1, "", ""); isZero(got) {
			t.Errorf("Make of the last lock of %d is zero", len(leaders))
		}
	}
}

// P7.1: swaps that Check refuses.
func TestMakeAndExtendOfSwapsThatMayNotBe(t *testing.T) {
	k := made(swap(), 0, secret(0), 2)
	for _, wrong := range refusedSwaps() {
		s := swap()
		wrong.apply(&s)
		if spec.Check(s) {
			t.Errorf("%s: it may be", wrong.name)
		}
		if got := Make(s, 0, secret(0), seed(2)); !isZero(got) {
			t.Errorf("%s: Make is %s", wrong.name, told(got))
		}
		if got := Extend(s, k, 1, seed(1)); !isZero(got) {
			t.Errorf("%s: Extend is %s", wrong.name, told(got))
		}
	}
	if got := Make(api.Spec{}, 0, "", ""); !isZero(got) {
		t.Errorf("Make of no swap is %s", told(got))
	}
	if got := Extend(api.Spec{}, k, 0, ""); !isZero(got) {
		t.Errorf("Extend of no swap is %s", told(got))
	}
}

// P7.1: swaps that Check takes and graph's Valid does not: keys are made, and open nothing.
func TestMakeAndExtendOfSwapsThatMayNotGoOn(t *testing.T) {
	s := swapOf(3, []int{1}, step{0, 1}, step{2, 0}, step{0, 2})
	k := made(s, 0, secret(0), 2, 0, 1)
	if !alike(k, keyOf(0, secret(0), 2, 0, 1)) {
		t.Errorf("the key is %s", told(k))
	}
	for arc := range s.Arcs {
		if Check(s, arc, k) {
			t.Errorf("it opens arc %d", arc)
		}
	}
}

// P7.1: a key, further and further; the signature ahead is of the first one, by the key's lock.
func TestExtend(t *testing.T) {
	s := swap()
	for _, x := range []struct {
		lock int
		path []int
	}{{0, []int{0, 4, 1, 2}}, {1, []int{3, 4, 0}}, {2, []int{2, 0, 4, 1, 3}}} {
		k := Make(s, x.lock, secret(x.lock), seed(s.Leaders[x.lock]))
		for at := len(x.path) - 2; at >= 0; at-- {
			v := x.path[at]
			next := Extend(s, k, v, seed(v))
			want := api.Hashkey{Lock: x.lock, Secret: secret(x.lock), Path: x.path[at:], Sigs: append([]string{ots.Sign(seed(v), x.lock, k.Sigs[0])}, k.Sigs...)}
			if !alike(next, want) || !alike(next, keyOf(x.lock, secret(x.lock), x.path[at:]...)) {
				t.Errorf("lock %d, path %v: Extend is %s", x.lock, x.path[at:], told(next))
			}
			k = next
		}
	}
}

// P7.1: a party that there is not; a key without Path, without Sigs, with a Lock that there is not.
func TestExtendOfNothing(t *testing.T) {
	s, k := swap(), made(swap(), 2, secret(2), 2, 3)
	for _, v := range notBelow(5) {
		if got := Extend(s, k, v, seed(0)); !isZero(got) {
			t.Errorf("Extend with party %d is %s", v, told(got))
		}
	}
	for _, lock := range notBelow(3) {
		x := copied(k)
		x.Lock = lock
		if got := Extend(s, x, 1, seed(1)); !isZero(got) {
			t.Errorf("Extend with lock %d is %s", lock, told(got))
		}
	}
	for name, change := range map[string]func(k *api.Hashkey){
		"no Path":       func(k *api.Hashkey) { k.Path = nil },
		"an empty Path": func(k *api.Hashkey) { k.Path = []int{} },
		"no Sigs":       func(k *api.Hashkey) { k.Sigs = nil },
		"empty Sigs":    func(k *api.Hashkey) { k.Sigs = []string{} },
		"neither":       func(k *api.Hashkey) { k.Path, k.Sigs = nil, nil },
	} {
		x := copied(k)
		change(&x)
		if got := Extend(s, x, 1, seed(1)); !isZero(got) {
			t.Errorf("Extend with %s is %s", name, told(got))
		}
	}
	if got := Extend(s, api.Hashkey{}, 1, seed(1)); !isZero(got) {
		t.Errorf("Extend of no key is %s", told(got))
	}
	if got := Extend(s, k, 4, seed(4)); isZero(got) {
		t.Error("Extend with the last party is zero")
	}
}

// P7.1: what is not said to be refused is taken, though it opens nothing.
func TestExtendOfAnyOtherKey(t *testing.T) {
	s := swap()
	long := strings.Repeat("s", 1000)
	for name, x := range map[string]struct {
		k api.Hashkey
		v int
	}{
		"a party of the path":            {keyOf(0, secret(0), 1, 2), 2},
		"the same party again":           {keyOf(0, secret(0), 1, 2), 1},
		"a party without an arc":         {keyOf(0, secret(0), 1, 2), 3},
		"a path that is none":            {api.Hashkey{Lock: 1, Secret: "x", Path: []int{-7, math.MaxInt, 4, 4, 4, 4, 4}, Sigs: []string{"a"}}, 0},
		"more Sigs than parties":         {api.Hashkey{Lock: 1, Path: []int{0}, Sigs: []string{"a", "b", "c"}}, 4},
		"an empty signature":             {api.Hashkey{Lock: 1, Secret: "x", Path: []int{0}, Sigs: []string{""}}, 4},
		"a long secret, and a signature": {api.Hashkey{Lock: 2, Secret: long, Path: []int{3}, Sigs: []string{long}}, 1},
	} {
		got := Extend(s, x.k, x.v, seed(x.v))
		want := copied(x.k)
		want.Path = slices.Insert(want.Path, 0, x.v)
		want.Sigs = slices.Insert(want.Sigs, 0, ots.Sign(seed(x.v), x.k.Lock, x.k.Sigs[0]))
		if !alike(got, want) {
			t.Errorf("%s: Extend is %s", name, told(got))
		}
		for arc := range s.Arcs {
			if Check(s, arc, got) {
				t.Errorf("%s: it opens arc %d", name, arc)
			}
		}
	}
}

// P7.1 with R3: the key and the swap that were handed in stay as they were, room behind their lists too; what was
// answered stays, whatever is made of it or done to what was handed in.
func TestExtendLeavesTheKey(t *testing.T) {
	s, untouched := swap(), swap()
	k := made(s, 0, secret(0), 1, 2)
	k.Path = append(make([]int, 0, 8), k.Path...)
	k.Sigs = append(make([]string, 0, 8), k.Sigs...)
	before := copied(k)
	room, sigRoom := slices.Clone(k.Path[:8]), slices.Clone(k.Sigs[:8])
	zero, four := Extend(s, k, 0, seed(0)), Extend(s, k, 4, seed(4))
	if !alike(k, before) || !slices.Equal(k.Path[:8], room) || !slices.Equal(k.Sigs[:8], sigRoom) {
		t.Errorf("the key has become %s", told(k))
	}
	again := Extend(s, zero, 4, seed(4))
	Check(s, 0, k)
	Bytes(k)
	if !reflect.DeepEqual(s, untouched) {
		t.Error("the swap has changed")
	}
	k.Path[0], k.Sigs[0], s.Leaders[0] = 9, "gone", 9
	if !alike(zero, keyOf(0, secret(0), 0, 1, 2)) || !alike(four, keyOf(0, secret(0), 4, 1, 2)) || !alike(again, keyOf(0, secret(0), 4, 0, 1, 2)) {
		t.Error("what was answered has changed")
	}
}

// P7.1 with P7.3: keys worked out by a program in another language.
func TestKnownAnswers(t *testing.T) {
	s := swap()
	for _, known := range []struct {
		lock int
		path []int
		sum  string
	}{
		{0, []int{2}, "9834e0f8079257a3d5cd53cdc10560da9121131a1bdd0b889f1540732469a81f"},
		{1, []int{4, 0}, "c05f0fdc49688ede123317d6f3607c1b9e778f1703957b0dd67b78602e1442c5"},
		{2, []int{0, 1, 2, 3}, "a137cebca010f47b7db2ea6edec8e567565ffcd43bea1fbfe286a9f79faedefe"},
	} {
		b := Bytes(made(s, known.lock, secret(known.lock), known.path...))
		if got := hex.EncodeToString([]byte(digest(b))); got != known.sum {
			t.Errorf("the key of lock %d, path %v has the digest %s", known.lock, known.path, got)
		}
	}
}

// opens is the arcs that a key opens, of those that there are and around them.
func opens(s api.Spec, k api.Hashkey) []int {
	var list []int
	for arc := -2; arc < len(s.Arcs)+2; arc++ {
		if Check(s, arc, k) {
			list = append(list, arc)
		}
	}
	return list
}

// entering is the arcs that lead to a party.
func entering(s api.Spec, v int) []int {
	var list []int
	for i, a := range s.Arcs {
		if a.To == v {
			list = append(list, i)
		}
	}
	return list
}

func isArc(s api.Spec, from, to int) bool {
	return slices.ContainsFunc(s.Arcs, func(a api.Arc) bool { return a.From == from && a.To == to })
}

// ways are all paths along arcs to a party, none with a party twice.
func ways(s api.Spec, path ...int) [][]int {
	list := [][]int{path}
	for v := range s.Parties {
		if isArc(s, v, path[0]) && !slices.Contains(path, v) {
			list = append(list, ways(s, append([]int{v}, path...)...)...)
		}
	}
	return list
}

// P7.4, P7.2: what is made by a leader and extended along arcs opens each arc that leads to its first party, no other one.
func TestWhatIsMadeAndExtendedOpens(t *testing.T) {
	ring := []step{{0, 1}, {1, 2}, {2, 3}, {3, 4}, {4, 5}, {5, 0}}
	all := []step{{0, 1}, {0, 2}, {1, 0}, {1, 2}, {2, 0}, {2, 1}}
	for _, s := range []api.Spec{swap(), swapOf(2, []int{1}, step{0, 1}, step{1, 0}), swapOf(6, []int{5}, ring...), swapOf(6, []int{3, 1, 2}, ring...), swapOf(3, []int{2, 0}, all...)} {
		if !graph.Valid(s) {
			t.Fatalf("a swap of %d parties may not go on", len(s.Parties))
		}
		longest := 0
		for lock, leader := range s.Leaders {
			for _, path := range ways(s, leader) {
				longest = max(longest, len(path))
				k := made(s, lock, secret(lock), path...)
				if got, want := opens(s, k), entering(s, path[0]); !slices.Equal(got, want) {
					t.Errorf("of %d parties: the key of lock %d, path %v opens %v, not %v", len(s.Parties), lock, path, got, want)
				}
			}
		}
		if longest != len(s.Parties) {
			t.Errorf("of %d parties no path has more than %d", len(s.Parties), longest)
		}
	}
}

// P7.2: of all lists of up to four parties, each signed as it should be, those alone open that are paths to the lock's Leader.
func TestCheckOfEachPath(t *testing.T) {
	s := swap()
	for lock, leader := range s.Leaders {
		good, left := map[string]int{}, 0
		for _, path := range ways(s, leader) {
			if len(path) <= 4 {
				good[Bytes(keyOf(lock, secret(lock), path...))]++
				left++
			}
		}
		for n := range 5 + 25 + 125 + 625 {
			path := parties(n)
			k := keyOf(lock, secret(lock), path...)
			want := entering(s, path[0])
			if good[Bytes(k)] == 0 {
				want = nil
			}
			if got := opens(s, k); !slices.Equal(got, want) {
				t.Errorf("the key of lock %d, path %v opens %v, not %v", lock, path, got, want)
			}
			left -= good[Bytes(k)]
		}
		if left != 0 {
			t.Errorf("%d paths of lock %d are not asked for", left, lock)
		}
	}
}

// parties is the n-th list of one to four of five parties.
func parties(n int) []int {
	size, count := 1, 5
	for n >= count {
		n, size, count = n-count, size+1, count*5
	}
	var list []int
	for range size {
		list, n = append(list, n%5), n/5
	}
	return list
}

// P7.2: swaps that graph's Valid refuses: by Check, by Strong, by Feedback; the key and its path are as they should be.
func TestCheckOfSwapsThatMayNotGoOn(t *testing.T) {
	k := keyOf(0, secret(0), 0, 1, 2)
	if s := swap(); !Check(s, 4, k) || !Check(s, 6, k) {
		t.Fatal("the key opens nothing")
	}
	for _, wrong := range refusedSwaps() {
		s := swap()
		wrong.apply(&s)
		if Check(s, 4, k) {
			t.Errorf("%s: the key opens", wrong.name)
		}
	}
	lone := swapOf(6, []int{2, 0, 3}, step{0, 1}, step{1, 2}, step{2, 3}, step{3, 4}, step{4, 0}, step{0, 5})
	if !spec.Check(lone) || graph.Strong(lone) || !graph.Feedback(lone) || !graph.Path(lone, k.Path) {
		t.Fatal("the swap is not as it should be")
	}
	if Check(lone, 4, k) {
		t.Error("the key opens an arc of a swap that is not Strong")
	}
	round := swap()
	round.Arcs = append(round.Arcs, api.Arc{From: 1, To: 4, Asset: "gold", Amount: 1})
	if !spec.Check(round) || !graph.Strong(round) || graph.Feedback(round) || !graph.Path(round, k.Path) {
		t.Fatal("the swap is not as it should be")
	}
	if Check(round, 4, k) {
		t.Error("the key opens an arc of a swap without Feedback")
	}
}

// P7.2: arcs and locks that there are not; a lock that is there, but another one.
func TestCheckOfNoArcAndNoLock(t *testing.T) {
	s, k := swap(), keyOf(0, secret(0), 1, 2)
	for _, arc := range notBelow(len(s.Arcs)) {
		if Check(s, arc, k) {
			t.Errorf("the key opens arc %d", arc)
		}
	}
	for _, lock := range append(notBelow(3), 1, 2) {
		x := copied(k)
		x.Lock = lock
		if got := opens(s, x); got != nil {
			t.Errorf("the key of lock 0 with lock %d opens %v", lock, got)
		}
	}
	last := swapOf(2, []int{1, 0}, step{0, 1}, step{1, 0})
	if !Check(last, 1, keyOf(1, secret(1), 0)) || !Check(last, 0, keyOf(0, secret(0), 1)) {
		t.Error("the last arc, or the last lock, does not open")
	}
	if got := opens(s, api.Hashkey{}); got != nil {
		t.Errorf("no key opens %v", got)
	}
}

// P7.2: another secret, though all is signed of it; one of no bytes, of 64 and of 65, though the lock is of it.
func TestCheckOfSecrets(t *testing.T) {
	s := swap()
	for _, other := range []string{"", "secret", secret(1), secret(0) + "\x00", " " + secret(0), strings.ToUpper(secret(0)), s.Locks[0]} {
		for _, path := range [][]int{{2}, {1, 2}, {0, 1, 2}} {
			if got := opens(s, keyOf(0, other, path...)); got != nil {
				t.Errorf("the key of %.20q, path %v opens %v", other, path, got)
			}
			x := keyOf(0, secret(0), path...)
			x.Secret = other
			if got := opens(s, x); got != nil {
				t.Errorf("the key with %.20q for its secret, path %v, opens %v", other, path, got)
			}
		}
	}
	for size, opening := range map[int]bool{0: true, 1: true, 63: true, 64: true, 65: false, 66: false, 128: false, 1000: false} {
		long := strings.Repeat("s", size)
		x := swap()
		x.Locks[0] = digest(long)
		for _, path := range [][]int{{2}, {0, 1, 2}} {
			if got := Check(x, entering(x, path[0])[0], made(x, 0, long, path...)); got != opening {
				t.Errorf("a secret of %d bytes, path %v: Check is %v", size, path, got)
			}
		}
	}
	for bit := range 8 * api.Hash {
		x := swap()
		x.Locks[0] = turned(x.Locks[0], bit)
		if Check(x, 1, keyOf(0, secret(0), 2)) {
			t.Errorf("the lock with bit %d turned opens", bit)
		}
	}
}

// P7.2: paths that graph's Path refuses, that begin elsewhere or end elsewhere.
func TestCheckOfOtherPaths(t *testing.T) {
	s := swap()
	for name, path := range map[string][]int{
		"a party twice":            {0, 4, 0, 1, 2},
		"the same twice":           {0, 0, 1, 2},
		"the leader twice":         {0, 1, 2, 2},
		"round to the leader":      {2, 3, 4, 1, 2},
		"no arc":                   {0, 2},
		"an arc the other way":     {3, 2},
		"all parties and no arcs":  {0, 3, 1, 4, 2},
		"behind the leader":        {1, 2, 3},
		"another lock's leader":    {1, 3},
		"just another leader":      {0},
		"no leader":                {0, 4},
		"turned round":             {2, 1, 0},
		"no party of this swap":    {5, 2},
		"no party, of the swap's":  {1, 5, 2},
		"six":                      {0, 1, 2, 3, 4, 0},
		"a thousand":               make([]int, 1000),
		"a thousand to the leader": append(make([]int, 1000), 1, 2),
	} {
		k := keyOf(0, secret(0), path...)
		if got := opens(s, k); got != nil {
			t.Errorf("%s: it opens %v", name, got)
		}
	}
	for _, v := range notBelow(5) {
		for _, path := range [][]int{{v}, {v, 2}, {1, v}, {0, v, 2}, {0, 1, v}} {
			k := keyOf(0, secret(0), 0, 1, 2)
			k.Path, k.Sigs = path, k.Sigs[:len(path)]
			if got := opens(s, k); got != nil {
				t.Errorf("path %v opens %v", path, got)
			}
		}
	}
	k := keyOf(0, secret(0), 0, 1, 2)
	for arc, a := range s.Arcs {
		if got := Check(s, arc, k); got != (a.To == 0) {
			t.Errorf("a path from 0: Check of the arc to %d is %v", a.To, got)
		}
	}
}

// P7.2: fewer Sigs, more of them, none; a Path without them.
func TestCheckOfOtherCounts(t *testing.T) {
	s := swap()
	for _, path := range [][]int{{2}, {1, 2}, {0, 1, 2}, {4, 0, 1, 2}} {
		k := keyOf(0, secret(0), path...)
		if got := opens(s, k); !slices.Equal(got, entering(s, path[0])) {
			t.Fatalf("path %v opens %v", path, got)
		}
		for n := range k.Sigs {
			x := copied(k)
			x.Sigs = x.Sigs[:n]
			y := copied(k)
			y.Sigs = y.Sigs[len(path)-n:]
			if opens(s, x) != nil || opens(s, y) != nil {
				t.Errorf("path %v with %d Sigs opens", path, n)
			}
		}
		for _, more := range []string{"", k.Secret, k.Sigs[0], k.Sigs[len(k.Sigs)-1], ots.Sign(seed(4), 0, k.Sigs[0])} {
			for at := range len(path) + 1 {
				x := copied(k)
				x.Sigs = slices.Insert(x.Sigs, at, more)
				if got := opens(s, x); got != nil {
					t.Errorf("path %v with %.8x more at %d opens %v", path, more, at, got)
				}
			}
		}
		x, y := copied(k), copied(k)
		x.Path = nil
		y.Path = y.Path[1:]
		if opens(s, x) != nil || opens(s, y) != nil {
			t.Errorf("the Sigs of path %v without it open", path)
		}
	}
}

// P7.2: each signature with bits turned, of every byte one.
func TestCheckOfTurnedSignatures(t *testing.T) {
	s, k := swap(), keyOf(0, secret(0), 4, 0, 1, 2)
	if !Check(s, 3, k) {
		t.Fatal("the key opens nothing")
	}
	for i := range k.Sigs {
		for at := range 512 {
			x := copied(k)
			x.Sigs[i] = turned(k.Sigs[i], 8*at+at%8)
			if Check(s, 3, x) {
				t.Errorf("with byte %d of signature %d turned the key opens", at, i)
			}
		}
		for j := range i {
			x := copied(k)
			x.Sigs[i], x.Sigs[j] = x.Sigs[j], x.Sigs[i]
			if Check(s, 3, x) {
				t.Errorf("with signatures %d and %d exchanged the key opens", i, j)
			}
		}
		for _, other := range []string{"", k.Sigs[i][1:], k.Sigs[i] + "x", strings.Repeat("\x00", 512)} {
			x := copied(k)
			x.Sigs[i] = other
			if Check(s, 3, x) {
				t.Errorf("with a signature %d of %d bytes the key opens", i, len(other))
			}
		}
	}
}

// resigned is the key of a path whose signature at a place is made by wrong; those ahead of it are as they should be, of it.
func resigned(lock int, path []int, at int, wrong func(text string) string) api.Hashkey {
	k := api.Hashkey{Lock: lock, Secret: secret(lock), Path: path, Sigs: make([]string, len(path))}
	text := k.Secret
	for i := len(path) - 1; i >= 0; i-- {
		if i == at {
			text = wrong(text)
		} else {
			text = ots.Sign(seed(path[i]), lock, text)
		}
		k.Sigs[i] = text
	}
	return k
}

// P7.2: one signature alone by another's seed, by another key, of another text; all ahead of it are good.
func TestCheckOfEachSignatureAlone(t *testing.T) {
	s := swap()
	for lock, path := range [][]int{{4, 0, 1, 2}, {2, 3, 4, 0}, {2, 0, 4, 1, 3}} {
		arc := entering(s, path[0])[0]
		for at, v := range path {
			own := func(text string) string { return ots.Sign(seed(v), lock, text) }
			if !Check(s, arc, resigned(lock, path, at, own)) {
				t.Fatalf("the key of lock %d, path %v opens nothing", lock, path)
			}
			wrongs := map[string]func(text string) string{
				"by no one's seed":   func(text string) string { return ots.Sign("seed", lock, text) },
				"by another key":     func(text string) string { return ots.Sign(seed(v), (lock+1)%3, text) },
				"by a key of none":   func(text string) string { return ots.Sign(seed(v), 3, text) },
				"of a text more":     func(text string) string { return own(text + "\x00") },
				"of nothing":         func(string) string { return own("") },
				"of itself":          func(text string) string { return own(own(text)) },
				"of the text's sum":  func(text string) string { return own(digest(text)) },
				"with a byte more":   func(text string) string { return own(text) + "\x00" },
				"with a byte fewer":  func(text string) string { return own(text)[:511] },
				"none":               func(string) string { return "" },
				"with a bit turned":  func(text string) string { return turned(own(text), 77) },
				"with halves turned": func(text string) string { return own(text)[256:] + own(text)[:256] },
			}
			for _, other := range path {
				if other != v {
					wrongs["by the seed of "+strconv.Itoa(other)] = func(text string) string { return ots.Sign(seed(other), lock, text) }
				}
			}
			if at < len(path)-1 {
				wrongs["of the secret"] = func(string) string { return own(secret(lock)) }
			}
			for name, wrong := range wrongs {
				if Check(s, arc, resigned(lock, path, at, wrong)) {
					t.Errorf("the key of lock %d, path %v with signature %d %s opens", lock, path, at, name)
				}
			}
		}
	}
}

// P7.2: who knows no seed verifies by the swap's Keys: another key of one party of the path, and the key no more opens.
func TestCheckHangsOnTheKeysOfThePath(t *testing.T) {
	k := keyOf(1, secret(1), 2, 3, 4, 0)
	for v := range 5 {
		for lock := range 3 {
			s := swap()
			s.Parties[v].Keys[lock] = ots.Public("another", lock)
			want := lock != 1 || v == 1
			if got := Check(s, 1, k); got != want {
				t.Errorf("with another key of party %d for lock %d: Check is %v", v, lock, got)
			}
		}
	}
}

// number and text are what chapter 3 makes of them, by the library's means.
func number(v int) string { return string(binary.BigEndian.AppendUint64(nil, uint64(v))) }

func text(s string) string { return number(len(s)) + s }

// laid is any key in the order of P7.3, whether it fits or not.
func laid(k api.Hashkey) string {
	out := number(k.Lock) + text(k.Secret) + number(len(k.Path))
	for _, v := range k.Path {
		out += number(v)
	}
	for _, sig := range k.Sigs {
		out += text(sig)
	}
	return out
}

// sized is a key of so many parties, no two of its signatures alike.
func sized(lock, secret, count int) api.Hashkey {
	k := api.Hashkey{Lock: lock, Secret: strings.Repeat("s", secret)}
	for i := range count {
		k.Path = append(k.Path, (i+3)%6)
		k.Sigs = append(k.Sigs, strings.Repeat(string([]byte{'a', byte(i)}), 256))
	}
	return k
}

// P7.3: keys that have bytes, each bound among them, there and back.
func TestBytesAndRead(t *testing.T) {
	keys := []api.Hashkey{
		keyOf(0, secret(0), 2), keyOf(2, secret(2), 2, 0, 4, 1, 3),
		{Lock: 1, Secret: "\x00\xff\n", Path: []int{0, 0, 5, 5, 0, 0}, Sigs: sized(0, 0, 6).Sigs},
	}
	for lock := range 3 {
		for _, secret := range []int{0, 1, 63, 64} {
			for count := 1; count <= 6; count++ {
				keys = append(keys, sized(lock, secret, count))
			}
		}
	}
	for v := range 6 {
		k := sized(0, 1, 1)
		k.Path[0] = v
		keys = append(keys, k)
	}
	for _, k := range keys {
		before := copied(k)
		b := Bytes(k)
		if b != laid(k) || b == "" {
			t.Errorf("Bytes of lock %d, secret of %d, path %v are %.40x", k.Lock, len(k.Secret), k.Path, b)
		}
		got, e := Read(b)
		if e != api.OK || !alike(got, k) || !Same(got, k) || Bytes(got) != b {
			t.Errorf("Read of lock %d, secret of %d, path %v is %s, %d", k.Lock, len(k.Secret), k.Path, told(got), e)
		}
		if !alike(k, before) {
			t.Errorf("the key of path %v has changed", before.Path)
		}
	}
}

// P7.3: each bound, one further; neither are there bytes, nor are bytes laid so read.
func TestBytesAndReadBeyondTheBounds(t *testing.T) {
	type wrong struct {
		name string
		k    api.Hashkey
	}
	wrongs := []wrong{
		{"a secret of 65 bytes", sized(0, 65, 1)},
		{"a secret of 1000 bytes", sized(2, 1000, 6)},
		{"no Path", sized(0, 1, 0)},
		{"nothing", api.Hashkey{}},
		{"seven parties", sized(0, 1, 7)},
		{"257 parties", sized(0, 1, 257)},
	}
	for _, lock := range notBelow(3) {
		wrongs = append(wrongs, wrong{"lock " + strconv.Itoa(lock), sized(lock, 1, 2)})
	}
	for at := range 6 {
		for _, v := range notBelow(6) {
			k := sized(0, 64, 6)
			k.Path[at] = v
			wrongs = append(wrongs, wrong{"place " + strconv.Itoa(v), k})
		}
		for _, size := range []int{0, 1, 511, 513, 1024} {
			k := sized(2, 64, 6)
			k.Sigs[at] = strings.Repeat("x", size)
			wrongs = append(wrongs, wrong{"a signature of " + strconv.Itoa(size), k})
		}
	}
	for path := range 8 {
		for sigs := range 8 {
			k := sized(1, 5, path)
			k.Sigs = sized(1, 5, sigs).Sigs
			if path != sigs {
				wrongs = append(wrongs, wrong{"path of " + strconv.Itoa(path) + ", Sigs of " + strconv.Itoa(sigs), k})
			}
		}
	}
	for _, x := range wrongs {
		if got := Bytes(x.k); got != "" {
			t.Errorf("%s: Bytes are %.40x", x.name, got)
		}
		refused(t, x.name, laid(x.k))
	}
}

func refused(t *testing.T, name, b string) {
	t.Helper()
	if got, e := Read(b); e != api.ErrBytes || !isZero(got) {
		t.Errorf("%s: Read is %s, %d", name, told(got), e)
	}
}

// P7.3: bytes cut anywhere, with more behind or ahead, with other numbers of how many.
func TestReadOfOtherBytes(t *testing.T) {
	for _, k := range []api.Hashkey{sized(1, 0, 1), sized(2, 64, 6), keyOf(0, secret(0), 0, 1, 2)} {
		b := Bytes(k)
		for n := range len(b) {
			refused(t, "cut to "+strconv.Itoa(n), b[:n])
		}
		for _, more := range []string{"\x00", "x", number(0), text(""), text(k.Sigs[0]), b} {
			refused(t, "more behind", b+more)
		}
		refused(t, "more ahead", "\x00"+b)
		refused(t, "a number more ahead", number(0)+b)
		head := number(k.Lock) + text(k.Secret)
		rest := b[len(head)+8:]
		for _, count := range []int{-1, 0, len(k.Path) - 1, len(k.Path) + 1, 7, 1 << 31, 1 << 61, math.MaxInt, math.MinInt} {
			refused(t, strconv.Itoa(count)+" parties", head+number(count)+rest)
		}
		for _, size := range []int{-1, len(k.Secret) + 1, 65, 1 << 31, math.MaxInt, math.MinInt} {
			refused(t, "a secret of "+strconv.Itoa(size), number(k.Lock)+number(size)+b[16:])
		}
	}
	// The bytes of the Path and of the Sigs taken in turns are another order.
	k := sized(0, 3, 2)
	refused(t, "in turns", number(0)+text(k.Secret)+number(2)+number(k.Path[0])+text(k.Sigs[0])+number(k.Path[1])+text(k.Sigs[1]))
	refused(t, "how many for each list", number(0)+text(k.Secret)+number(2)+number(3)+number(4)+number(2)+text(k.Sigs[0])+text(k.Sigs[1]))
	refused(t, "bare signatures", number(0)+text(k.Secret)+number(2)+number(3)+number(4)+k.Sigs[0]+k.Sigs[1])
}

// P7.3: whatever bit is turned, what is read is just what was written, or nothing.
func TestReadOfTurnedBytes(t *testing.T) {
	k := keyOf(1, secret(1), 4, 0)
	b := Bytes(k)
	taken := 0
	for bit := range 8 * len(b) {
		x := turned(b, bit)
		got, e := Read(x)
		switch {
		case e == api.OK:
			taken++
			if laid(got) != x || Bytes(got) != x || Same(got, k) || alike(got, k) {
				t.Errorf("with bit %d turned Read is %s", bit, told(got))
			}
		case e != api.ErrBytes || !isZero(got):
			t.Errorf("with bit %d turned Read is %s, %d", bit, told(got), e)
		}
	}
	// All bits of the secret and of the Sigs; of Lock 1 the last one; of place 4 two, which make it 5 and 0; of place 0 three, which make it 1, 2 and 4.
	if want := 8*(len(k.Secret)+2*512) + 1 + 2 + 3; taken != want {
		t.Errorf("%d turned ones are taken, not %d", taken, want)
	}
}

// P7.3 with R3: what was read stays, whatever is done to what is read of the same bytes.
func TestReadIsNew(t *testing.T) {
	k := keyOf(0, secret(0), 0, 1, 2)
	b := Bytes(k)
	one, _ := Read(b)
	one.Path[0], one.Sigs[0] = 5, "gone"
	one.Path, one.Sigs = append(one.Path, 4), append(one.Sigs, "more")
	if two, e := Read(b); e != api.OK || !alike(two, k) {
		t.Errorf("Read is %s, %d", told(two), e)
	}
}

// P7.3: Same with itself, with each part otherwise, of keys that have no bytes too.
func TestSame(t *testing.T) {
	base := api.Hashkey{Lock: 1, Secret: "secret", Path: []int{3, 4, 5}, Sigs: []string{"one", "two", "three"}}
	others := []func(k *api.Hashkey){
		func(k *api.Hashkey) { k.Lock = 0 },
		func(k *api.Hashkey) { k.Lock = -1 },
		func(k *api.Hashkey) { k.Lock = 1 + 1<<32 },
		func(k *api.Hashkey) { k.Secret = "" },
		func(k *api.Hashkey) { k.Secret = "secreT" },
		func(k *api.Hashkey) { k.Secret += "\x00" },
		func(k *api.Hashkey) { k.Path = nil },
		func(k *api.Hashkey) { k.Path = k.Path[:2] },
		func(k *api.Hashkey) { k.Path = k.Path[1:] },
		func(k *api.Hashkey) { k.Path = append(k.Path, 0) },
		func(k *api.Hashkey) { k.Path[0] = 2 },
		func(k *api.Hashkey) { k.Path[1] = -4 },
		func(k *api.Hashkey) { k.Path[2] = 5 + 1<<32 },
		func(k *api.Hashkey) { k.Path[0], k.Path[2] = 5, 3 },
		func(k *api.Hashkey) { k.Sigs = nil },
		func(k *api.Hashkey) { k.Sigs = k.Sigs[:2] },
		func(k *api.Hashkey) { k.Sigs = k.Sigs[1:] },
		func(k *api.Hashkey) { k.Sigs = append(k.Sigs, "") },
		func(k *api.Hashkey) { k.Sigs[0] = "onE" },
		func(k *api.Hashkey) { k.Sigs[1] = "" },
		func(k *api.Hashkey) { k.Sigs[2] += "\x00" },
		func(k *api.Hashkey) { k.Sigs[0], k.Sigs[1] = "onet", "wo" },
		func(k *api.Hashkey) { k.Sigs[0], k.Sigs[2] = k.Sigs[2], k.Sigs[0] },
		func(k *api.Hashkey) { *k = api.Hashkey{} },
	}
	if !Same(base, base) || !Same(base, copied(base)) {
		t.Error("a key is not as itself")
	}
	for i, change := range others {
		x := copied(base)
		change(&x)
		if Same(x, base) || Same(base, x) {
			t.Errorf("%d: unlike keys are the same", i)
		}
		if !Same(x, x) || !Same(x, copied(x)) {
			t.Errorf("%d: a key is not as itself", i)
		}
	}
	none, empty := api.Hashkey{}, api.Hashkey{Path: []int{}, Sigs: []string{}}
	if !Same(none, empty) || !Same(empty, none) || !Same(none, none) {
		t.Error("no list and an empty one are not one")
	}
	one := made(swap(), 0, secret(0), 1, 2)
	if !Same(one, keyOf(0, secret(0), 1, 2)) || Same(one, keyOf(0, secret(0), 2)) || Same(one, keyOf(1, secret(0), 1, 2)) {
		t.Error("keys that are made are not held against each other")
	}
}

// R1, R4: whatever is handed in, each call answers, and the same again.
func TestAnyArguments(t *testing.T) {
	r := rand.New(rand.NewSource(7))
	pick := func() int {
		edges := []int{0, 1, 2, 3, 4, 5, 6, 0, 1, 2, -1, math.MaxInt, math.MinInt}
		return edges[r.Intn(len(edges))]
	}
	sigs := []string{"", "x", strings.Repeat("x", 512), keyOf(0, secret(0), 2).Sigs[0], strings.Repeat("x", 513)}
	swaps := []api.Spec{{}, swap(), {Parties: make([]api.Party, 3), Arcs: make([]api.Arc, 3), Leaders: []int{9, -1}, Locks: []string{"", ""}}}
	for _, wrong := range refusedSwaps() {
		s := swap()
		wrong.apply(&s)
		swaps = append(swaps, s)
	}
	for range 20000 {
		k := api.Hashkey{Lock: pick(), Secret: []string{"", secret(0), sigs[2]}[r.Intn(3)]}
		for range r.Intn(9) {
			k.Path = append(k.Path, pick())
		}
		for range r.Intn(9) {
			k.Sigs = append(k.Sigs, sigs[r.Intn(len(sigs))])
		}
		s, n := swaps[r.Intn(len(swaps))], pick()
		if !Same(Make(s, n, k.Secret, "x"), Make(s, n, k.Secret, "x")) || !Same(Extend(s, k, n, "x"), Extend(s, k, n, "x")) {
			t.Fatal("the same call makes another key")
		}
		if Check(s, n, k) != Check(s, n, k) || Bytes(k) != Bytes(k) {
			t.Fatal("the same call answers otherwise")
		}
		if got, e := Read(laid(k)); (e == api.OK) != (Bytes(k) != "") || e == api.OK && !alike(got, k) {
			t.Fatalf("Read is %s, %d", told(got), e)
		}
	}
}
