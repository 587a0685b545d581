package escrow

import "handsel/api"

// state is what has come of an escrow; its numbers are api's.
type state int

const (
	none state = iota
	held
	redeemed
	refunded
)

// hold, unlock, redeem and refund are the steps of a state: what it is then, and whether it may be taken.
// No step leaves redeemed or refunded: so an escrow ends once.
func (s state) hold() (state, bool) { return held, s == none }

func (s state) unlock() (state, bool) { return held, s == held }

func (s state) redeem() (state, bool) { return redeemed, s == held }

func (s state) refund() (state, bool) { return refunded, s == held }

// heir is the account whose the amount is when it has ended so.
func (s state) heir(d deal) string {
	if s == redeemed {
		return d.to
	}
	return d.from
}

// step is an escrow behind a step of its state, and whether that may be taken.
func step(e api.Escrow, by func(state) (state, bool)) (api.Escrow, bool) {
	next, may := by(state(e.State))
	e.State = int(next)
	return e, may
}
