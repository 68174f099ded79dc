package court

import (
	"slices"

	"bonehouse/api"
)

// What a claim waits for.
const (
	forObjections = 1
	forSamples    = 2
	forNothing    = 3 // there is a ruling
)

// claim is a claim, with what the record says about it.
type claim struct {
	api.Claim
	notice, term int         // the last days of objections, and of samples and withdrawals
	withdrawn    []int       // families
	best         map[int]int // for each family with samples the greatest value of these
	rests        []int       // the numbers of all messages that count
}

// newClaim returns the claim of a ClaimM.
func newClaim(m api.Message, t api.Terms) *claim {
	no, notice := number(m), m.Day+t.Notice
	return &claim{
		Claim:  api.Claim{No: no, Day: m.Day, Find: m.Find, Family: m.Family},
		notice: notice, term: notice + t.Sampling,
		best: map[int]int{}, rests: []int{no},
	}
}

// claim returns the claim with a number; nil if there is none.
func (x *docket) claim(no int) *claim {
	for _, y := range x.claims {
		if y.No == no {
			return y
		}
	}
	return nil
}

// object takes an objection into account.
func (y *claim) object(m api.Message) {
	if m.Day > y.notice {
		return
	}
	y.rests = append(y.rests, number(m))
	if m.Family != y.Family && !slices.Contains(y.Families, m.Family) {
		y.Families = append(y.Families, m.Family)
	}
}

// sample takes a sample into account.
func (y *claim) sample(m api.Message) {
	y.rests = append(y.rests, number(m))
	y.best[m.Family] = max(y.best[m.Family], m.Value)
}

// drop takes a withdrawal into account. Behind the last day it is too late for the ruling, which may have been told already: if nobody objects, this day is ahead of the end of the term. As the record goes by days, all objections are known then.
func (y *claim) drop(m api.Message) {
	y.rests = append(y.rests, number(m))
	if m.Day <= y.last() {
		y.withdrawn = append(y.withdrawn, m.Family)
	}
}

// last returns the last day of a claim.
func (y *claim) last() int {
	if len(y.Families) == 0 {
		return y.notice
	}
	return y.term
}

// state returns what a claim waits for, and the day.
func (x *docket) state(y *claim) (int, int) {
	if y.notice > x.closed {
		return forObjections, y.notice
	}
	if y.last() > x.closed {
		return forSamples, y.last()
	}
	return forNothing, y.last()
}

// Claims returns the claims, in the order of the record.
func Claims(c api.Court) ([]api.Claim, api.Errno) {
	if err := Check(c); err != api.OK {
		return nil, err
	}
	var l []api.Claim
	for _, y := range open(c).claims {
		l = append(l, y.Claim)
	}
	return l, api.OK
}

// Status returns what a claim waits for, and up to which day.
func Status(c api.Court, claim int) (int, int, api.Errno) {
	x, err := openFor(c, claim)
	if err != api.OK {
		return 0, 0, err
	}
	y := x.claim(claim)
	if y == nil {
		return 0, 0, api.ErrNone
	}
	state, day := x.state(y)
	return state, day, api.OK
}

// Rests returns the numbers of the messages on which a ruling rests.
func Rests(c api.Court, claim int) ([]int, api.Errno) {
	x, err := openFor(c, claim)
	if err != api.OK {
		return nil, err
	}
	y := x.claim(claim)
	if y == nil || y.last() > x.closed {
		return nil, api.ErrNone
	}
	slices.Sort(y.rests)
	return y.rests, api.OK
}
