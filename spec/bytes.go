package spec

import (
	"strings"

	"handsel/api"
	"handsel/codec"
)

func write(s api.Spec) string {
	return codec.Text(s.ID) +
		writeList(s.Parties, writeParty) +
		writeList(s.Arcs, writeArc) +
		writeList(s.Leaders, codec.Num) +
		writeList(s.Locks, codec.Text) +
		codec.Num(s.Start) + codec.Num(s.Delta)
}

func writeParty(p api.Party) string {
	return codec.Text(p.Account) + writeList(p.Keys, codec.Text)
}

func writeArc(a api.Arc) string {
	return codec.Num(a.From) + codec.Num(a.To) + codec.Num(a.Ledger) +
		codec.Text(a.Asset) + codec.Num(a.Amount)
}

// writeList is how many items there are, and behind it each of them.
func writeList[T any](items []T, write func(T) string) string {
	var out strings.Builder
	out.WriteString(codec.Num(len(items)))
	for _, item := range items {
		out.WriteString(write(item))
	}
	return out.String()
}

// read is what write wrote, and whether it is that and no more; the swap may be one that Check refuses.
// Here and below the fields stand in the order of their bytes, for in that order they are read.
func read(b string) (api.Spec, bool) {
	r := codec.New(b)
	s := api.Spec{
		ID:      r.Text(api.MaxName),
		Parties: readList(r, api.MaxParties, readParty),
		Arcs:    readList(r, api.MaxArcs, readArc),
		Leaders: readList(r, api.MaxLeaders, (*codec.Reader).Num),
		Locks:   readList(r, api.MaxLeaders, readLock),
		Start:   r.Num(),
		Delta:   r.Num(),
	}
	return s, !r.Bad() && r.Left() == 0
}

func readParty(r *codec.Reader) api.Party {
	return api.Party{
		Account: r.Text(api.MaxName),
		Keys:    readList(r, api.MaxLeaders, readKey),
	}
}

func readArc(r *codec.Reader) api.Arc {
	return api.Arc{
		From: r.Num(), To: r.Num(), Ledger: r.Num(),
		Asset: r.Text(api.MaxName), Amount: r.Num(),
	}
}

func readKey(r *codec.Reader) string { return r.Text(api.Short) }

func readLock(r *codec.Reader) string { return r.Text(api.Hash) }

// readList is a list that writeList wrote, of so many items at most.
func readList[T any](r *codec.Reader, most int, read func(*codec.Reader) T) []T {
	items := make([]T, r.Count(most))
	for i := range items {
		items[i] = read(r)
	}
	return items
}
