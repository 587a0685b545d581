package escrow

import (
	"cmp"
	"slices"
	"strings"

	"handsel/api"
	"handsel/spec"
)

// deal is an arc with its parties' accounts.
type deal struct {
	arc      api.Arc
	from, to string
}

// dealOf is an arc of a swap; false: there is no such arc, as may be of an escrow that was read from bytes.
func dealOf(s api.Spec, arc int) (deal, bool) {
	if !spec.Check(s) || arc < 0 || arc >= len(s.Arcs) {
		return deal{}, false
	}
	a := s.Arcs[arc]
	return deal{arc: a, from: s.Parties[a.From].Account, to: s.Parties[a.To].Account}, true
}

// contract is an escrow of a swap's arc that is held from now on.
func contract(s api.Spec, arc int) api.Escrow {
	e, _ := step(api.Escrow{Spec: copied(s), Arc: arc, Keys: make([]api.Hashkey, len(s.Locks))}, state.hold)
	return e
}

// copied is a swap in new memory: whoever handed it in may go on to change it.
func copied(s api.Spec) api.Spec {
	s.Parties = slices.Clone(s.Parties)
	for i := range s.Parties {
		s.Parties[i].Keys = slices.Clone(s.Parties[i].Keys)
	}
	s.Arcs = slices.Clone(s.Arcs)
	s.Leaders = slices.Clone(s.Leaders)
	s.Locks = slices.Clone(s.Locks)
	return s
}

func isOpen(e api.Escrow, lock int) bool {
	return lock < len(e.Keys) && len(e.Keys[lock].Path) > 0
}

// allOpen asks lock by lock, for an escrow that was read from bytes may have more Keys than Locks, or fewer.
func allOpen(e api.Escrow) bool {
	for lock := range e.Spec.Locks {
		if !isOpen(e, lock) {
			return false
		}
	}
	return true
}

// opened is an escrow with a lock open; the key is kept in new memory, as the swap is.
func opened(e api.Escrow, k api.Hashkey) api.Escrow {
	k.Path, k.Sigs = slices.Clone(k.Path), slices.Clone(k.Sigs)
	keys := make([]api.Hashkey, max(len(e.Keys), len(e.Spec.Locks)))
	copy(keys, e.Keys)
	keys[k.Lock] = k
	e.Keys = keys
	return e
}

// place is where a book has the escrow of an arc of a swap.
func place(b api.Book, swap string, arc int) (int, bool) {
	i := slices.IndexFunc(b.Escrows, func(e api.Escrow) bool { return e.Spec.ID == swap && e.Arc == arc })
	return i, i >= 0
}

// added, replaced and paid make each list that changes anew: the book that was handed in stays as it was.
func added(b api.Book, e api.Escrow) api.Book {
	b.Escrows = slices.Concat(b.Escrows, []api.Escrow{e})
	return b
}

// replaced is a book with another escrow in the place of that of the same arc.
func replaced(b api.Book, e api.Escrow) api.Book {
	if i, found := place(b, e.Spec.ID, e.Arc); found {
		b.Escrows = slices.Clone(b.Escrows)
		b.Escrows[i] = e
	}
	return b
}

// paid is a book in which the heir of an escrow that has ended has its amount.
// bank's Give is not asked, for no end may fail for want of room: a book that was read from bytes may have more in it than Give lets in.
func paid(b api.Book, e api.Escrow) api.Book {
	d, fits := dealOf(e.Spec, e.Arc)
	if !fits {
		return b
	}
	f := api.Fund{Account: state(e.State).heir(d), Asset: d.arc.Asset, Amount: d.arc.Amount}
	i, found := slices.BinarySearchFunc(b.Funds, f, inOrder)
	behind := b.Funds[i:]
	if found {
		f.Amount += behind[0].Amount
		behind = behind[1:]
	}
	b.Funds = slices.Concat(b.Funds[:i], []api.Fund{f}, behind)
	return b
}

// inOrder tells how Funds follow one another, as cmp.Compare does.
func inOrder(a, b api.Fund) int {
	return cmp.Or(strings.Compare(a.Account, b.Account), strings.Compare(a.Asset, b.Asset))
}
