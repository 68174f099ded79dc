package court

import "bonehouse/api"

// docket is what the record of a court says.
type docket struct {
	court   api.Court
	closed  int
	claims  []*claim // in the order of the record, as the leases and the burials
	leases  []*lease
	burials []api.Burial
}

// open returns the docket of a valid court.
func open(c api.Court) *docket {
	x := &docket{court: c, closed: closed(c)}
	l := record(c)
	// An office whose day is behind can write about a claim on a day before it, so all claims come first.
	for _, m := range l {
		if m.Kind == api.ClaimM {
			x.claims = append(x.claims, newClaim(m, c.Terms))
		}
	}
	deeds := x.deeds()
	for _, m := range l {
		x.read(m, deeds[m.Kind])
	}
	return x
}

// openFor is open for a question about the message with a number; ErrArg unless there can be one.
func openFor(c api.Court, no int) (*docket, api.Errno) {
	if err := Check(c); err != api.OK {
		return nil, err
	}
	if !isNumber(no) {
		return nil, api.ErrArg
	}
	return open(c), api.OK
}

// deeds returns, for each kind of messages, what one of this kind does, if it does something then: by itself, to the claim that it is about, or to the lease.
func (x *docket) deeds() []any {
	return []any{
		api.ObjectM: (*claim).object,
		api.SampleM: (*claim).sample,
		api.DropM:   (*claim).drop,
		api.LeaseM:  x.ask,
		api.GiveM:   (*lease).give,
		api.BuryM:   x.bury,
	}
}

// read takes the next message of the record into account, which does a deed.
func (x *docket) read(m api.Message, deed any) {
	switch do := deed.(type) {
	case func(api.Message):
		do(m)
	case func(*claim, api.Message):
		if y := x.claim(m.Claim); y != nil && m.Day <= y.term {
			do(y, m)
		}
	case func(*lease, api.Message):
		if y := x.lease(m.Claim); y != nil && y.Office == m.From && y.isHeld() {
			do(y, m)
		}
	}
}
