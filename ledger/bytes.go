package ledger

import (
	"strings"

	"handsel/api"
	"handsel/codec"
	"handsel/hashkey"
	"handsel/spec"
)

// What stands ahead of a lock's key.
const (
	shut = 0 // there is none
	open = 1 // its bytes follow
)

// Bytes is a book as bytes.
func Bytes(b api.Book) string {
	return codec.Num(b.Number) + codec.Num(b.Time) +
		listed(b.Accounts, codec.Text) +
		listed(b.Funds, fundBytes) +
		listed(b.Escrows, escrowBytes)
}

func fundBytes(f api.Fund) string {
	return codec.Text(f.Account) + codec.Text(f.Asset) + codec.Num(f.Amount)
}

func escrowBytes(e api.Escrow) string {
	return codec.Text(spec.Bytes(e.Spec)) +
		codec.Num(e.Arc) + codec.Num(e.State) +
		listed(e.Keys, keyBytes)
}

func keyBytes(k api.Hashkey) string {
	if len(k.Path) == 0 {
		return codec.Num(shut)
	}
	return codec.Num(open) + codec.Text(hashkey.Bytes(k))
}

// listed is how many items there are, and behind it the bytes of each.
func listed[T any](items []T, bytes func(T) string) string {
	parts := []string{codec.Num(len(items))}
	for _, item := range items {
		parts = append(parts, bytes(item))
	}
	return strings.Join(parts, "")
}

// Read is the book of bytes.
func Read(s string) (api.Book, api.Errno) {
	r := &reader{Reader: codec.New(s)}
	b := r.book()
	if r.wrong || r.Bad() || r.Left() > 0 {
		return api.Book{}, api.ErrBytes
	}
	return b, api.OK
}

// reader reads the parts of a book; in each of them the fields stand in the order of their bytes, for in that order they are read.
type reader struct {
	*codec.Reader
	wrong bool // a text is no swap's, or no key's
}

func (r *reader) book() api.Book {
	return api.Book{
		Number:   r.Num(),
		Time:     r.Num(),
		Accounts: several(r.Count(api.MaxAccounts), r.name),
		Funds:    several(r.Count(api.MaxAccounts*api.MaxAssets), r.fund),
		Escrows:  several(r.Count(api.MaxEscrows), r.escrow),
	}
}

func (r *reader) name() string { return r.Text(api.MaxName) }

func (r *reader) fund() api.Fund {
	return api.Fund{Account: r.name(), Asset: r.name(), Amount: r.Num()}
}

func (r *reader) escrow() api.Escrow {
	return api.Escrow{
		Spec:  inside(r, spec.Read),
		Arc:   r.Num(),
		State: r.Num(),
		Keys:  several(r.Count(api.MaxLeaders), r.key),
	}
}

func (r *reader) key() api.Hashkey {
	if r.Count(open) == shut {
		return api.Hashkey{}
	}
	return inside(r, hashkey.Read)
}

// inside is what stands in the next text, by the Read of another layer.
func inside[T any](r *reader, read func(string) (T, api.Errno)) T {
	// No swap's and no key's bytes are as many as a command's may be, which has one of them in it.
	v, e := read(r.Text(api.MaxBytes))
	r.wrong = r.wrong || e != api.OK
	return v
}

// several is so many of what is read, one behind the other.
func several[T any](count int, read func() T) []T {
	var list []T
	for range count {
		list = append(list, read())
	}
	return list
}
