package cmd

import (
	"strings"

	"handsel/api"
	"handsel/codec"
	"handsel/hashkey"
	"handsel/spec"
)

// hand is what is done with the parts of a command, by their sorts.
type hand struct {
	name   func(*string)
	amount func(*int)
	arc    func(*int)
	spec   func(*api.Spec)
	key    func(*api.Hashkey)
}

// walk gives a hand each part that a command of its Kind has, in the order of their bytes; it tells whether there is such a Kind.
// Who checks, writes and reads goes by the same walk: so what each Kind has is said once.
func walk(c *api.Cmd, h hand) bool {
	if c.Kind < api.Open || c.Kind > api.LastKind {
		return false
	}
	kinds := [api.LastKind + 1]func(*api.Cmd, hand){
		api.Open:    walkOpen,
		api.Move:    walkMove,
		api.Hold:    walkHold,
		api.Unlock:  walkUnlock,
		api.Redeem:  walkEnd,
		api.Refund:  walkEnd,
		api.Balance: walkBalance,
		api.State:   walkState,
	}
	kinds[c.Kind](c, h)
	return true
}

func walkOpen(c *api.Cmd, h hand) {
	h.name(&c.Who)
}

func walkMove(c *api.Cmd, h hand) {
	h.name(&c.Who)
	h.name(&c.Whom)
	h.name(&c.Asset)
	h.amount(&c.Amount)
}

func walkHold(c *api.Cmd, h hand) {
	h.name(&c.Who)
	h.spec(&c.Spec)
	h.arc(&c.Arc)
}

func walkUnlock(c *api.Cmd, h hand) {
	h.name(&c.Who)
	h.name(&c.Swap)
	h.arc(&c.Arc)
	h.key(&c.Key)
}

// walkEnd is of both ways in which an escrow ends.
func walkEnd(c *api.Cmd, h hand) {
	h.name(&c.Who)
	h.name(&c.Swap)
	h.arc(&c.Arc)
}

func walkBalance(c *api.Cmd, h hand) {
	h.name(&c.Who)
	h.name(&c.Asset)
}

func walkState(c *api.Cmd, h hand) {
	h.name(&c.Swap)
	h.arc(&c.Arc)
}

// taker takes each part out of the command, and notes if one of them may not be.
func taker(ok *bool) hand {
	return hand{
		name:   taken(ok, isName),
		amount: taken(ok, isAmount),
		arc:    taken(ok, isArc),
		spec:   taken(ok, spec.Check),
		key:    taken(ok, isKey),
	}
}

func taken[T any](ok *bool, fits func(T) bool) func(*T) {
	return func(part *T) {
		*ok = *ok && fits(*part)
		var nothing T
		*part = nothing
	}
}

func isName(s string) bool { return within(len(s), 1, api.MaxName) }

func isAmount(v int) bool { return within(v, 1, api.MaxAmount) }

func isArc(v int) bool { return within(v, 0, api.MaxArcs-1) }

func isKey(k api.Hashkey) bool { return hashkey.Bytes(k) != "" }

func within(v, least, most int) bool { return least <= v && v <= most }

// writer writes each part.
func writer(out *strings.Builder) hand {
	return hand{
		name:   written(out, codec.Text),
		amount: written(out, codec.Num),
		arc:    written(out, codec.Num),
		spec:   written(out, func(s api.Spec) string { return codec.Text(spec.Bytes(s)) }),
		key:    written(out, func(k api.Hashkey) string { return codec.Text(hashkey.Bytes(k)) }),
	}
}

func written[T any](out *strings.Builder, write func(T) string) func(*T) {
	return func(part *T) { out.WriteString(write(*part)) }
}

// filler reads each part into the command, which may be one that Check refuses then.
func filler(r *codec.Reader) hand {
	return hand{
		name:   filled(func() string { return r.Text(api.MaxName) }),
		amount: filled(r.Num),
		arc:    filled(r.Num),
		spec:   filled(func() api.Spec { return readSpec(r) }),
		key:    filled(func() api.Hashkey { return readKey(r) }),
	}
}

func filled[T any](read func() T) func(*T) {
	return func(part *T) { *part = read() }
}

// readSpec is the zero spec where there is none: that is one that Check refuses.
func readSpec(r *codec.Reader) api.Spec {
	s, _ := spec.Read(r.Text(api.MaxBytes))
	return s
}

// readKey is the zero key where there is none: that is one that Check refuses.
func readKey(r *codec.Reader) api.Hashkey {
	k, _ := hashkey.Read(r.Text(api.MaxBytes))
	return k
}
