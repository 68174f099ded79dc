package court

import (
	"slices"

	"bonehouse/api"
)

// lease is a lease that was asked for, with what became of it.
type lease struct {
	api.Lease
	isBack, isUsed bool // given back; buried under
}

// lease returns the lease with a number, if it was asked for so far; nil if not.
func (x *docket) lease(no int) *lease {
	for _, y := range x.leases {
		if y.No == no {
			return y
		}
	}
	return nil
}

// isHeld reports whether y was granted, and not given back.
func (y *lease) isHeld() bool { return y.Granted && !y.isBack }

// ask takes it into account that a lease is asked for.
func (x *docket) ask(m api.Message) {
	x.leases = append(x.leases, &lease{Lease: api.Lease{
		No: number(m), Office: m.From, Day: m.Day, Until: m.Day + x.court.Terms.Lease,
		Find: m.Find, Grave: m.Grave, Granted: x.isFree(m),
	}})
}

// isFree reports whether neither the find nor the grave of a LeaseM is buried or leased.
func (x *docket) isFree(m api.Message) bool {
	for _, b := range x.burials {
		if b.Find == m.Find || b.Grave == m.Grave {
			return false
		}
	}
	for _, y := range x.leases {
		if (y.Find == m.Find || y.Grave == m.Grave) && y.isHeld() && y.Until >= m.Day {
			return false
		}
	}
	return true
}

// give takes it into account that a lease that is held is given back.
func (y *lease) give(api.Message) { y.isBack = true }

// bury takes it into account that the office that holds a lease buries under it.
func (x *docket) bury(y *lease, m api.Message) {
	if y.isUsed || y.Until < m.Day {
		return
	}
	y.isUsed = true
	x.burials = append(x.burials, api.Burial{Find: y.Find, Grave: y.Grave, Lease: y.No, Day: m.Day})
}

// may reports whether the office can bury today under the lease with a number.
func (x *docket) may(no int) bool {
	y := x.lease(no)
	if y == nil || !y.Granted || y.Office != x.court.Me || y.Until < x.court.Day {
		return false
	}
	return !slices.ContainsFunc(own(x.court), func(m api.Message) bool {
		return (m.Kind == api.GiveM || m.Kind == api.BuryM) && m.Claim == no
	})
}

// Leases returns the leases that were asked for, in the order of the record.
func Leases(c api.Court) ([]api.Lease, api.Errno) {
	if err := Check(c); err != api.OK {
		return nil, err
	}
	var l []api.Lease
	for _, y := range open(c).leases {
		l = append(l, y.Lease)
	}
	return l, api.OK
}

// May reports whether the office can bury under a lease today.
func May(c api.Court, lease int) (bool, api.Errno) {
	x, err := openFor(c, lease)
	if err != api.OK {
		return false, err
	}
	return x.may(lease), api.OK
}

// Buried returns the burials, in the order of the record.
func Buried(c api.Court) ([]api.Burial, api.Errno) {
	if err := Check(c); err != api.OK {
		return nil, err
	}
	return open(c).burials, api.OK
}
