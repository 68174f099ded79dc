package court

import (
	"slices"

	"bonehouse/api"
)

// put returns a log with m at its place, in the memory of l or in memory of its own. Of messages with one number the one that is ahead is in it.
func put(l []api.Message, m api.Message) []api.Message {
	i, is := slices.BinarySearchFunc(l, number(m), func(x api.Message, no int) int { return number(x) - no })
	if !is {
		return slices.Insert(l, i, m)
	}
	if Compare(m, l[i]) < 0 {
		l[i] = m
	}
	return l
}

// isForged reports whether m is said to be of the office of c, which has not written it.
func isForged(c api.Court, m api.Message) bool {
	return m.From == c.Me && !slices.Contains(c.Log, m)
}

// Deliver returns c with a message that has arrived.
func Deliver(c api.Court, m api.Message) (api.Court, api.Errno) {
	if err := Check(c); err != api.OK {
		return api.Court{}, err
	}
	if !isOf(m, c.Offices) || isForged(c, m) {
		return api.Court{}, api.ErrMessage
	}
	c.Log = put(slices.Clone(c.Log), m)
	return c, api.OK
}

// Merge returns a with the messages of b as well.
func Merge(a, b api.Court) (api.Court, api.Errno) {
	if err := checkBoth(a, b); err != api.OK {
		return api.Court{}, err
	}
	if !isSameCase(a, b) {
		return api.Court{}, api.ErrArg
	}
	if slices.ContainsFunc(b.Log, func(m api.Message) bool { return isForged(a, m) }) {
		return api.Court{}, api.ErrMessage
	}
	a.Log = slices.Clone(a.Log)
	for _, m := range b.Log {
		a.Log = put(a.Log, m)
	}
	return a, api.OK
}

// checkBoth returns ErrCourt unless a and b are valid.
func checkBoth(a, b api.Court) api.Errno {
	if err := Check(a); err != api.OK {
		return err
	}
	return Check(b)
}

// isSameCase reports whether a and b have the same offices and terms.
func isSameCase(a, b api.Court) bool { return a.Offices == b.Offices && a.Terms == b.Terms }

// Replay returns the court of an office that has had messages, in any order.
func Replay(offices, me int, t api.Terms, l []api.Message) (api.Court, api.Errno) {
	c, err := New(offices, me, t)
	if err != api.OK {
		return api.Court{}, err
	}
	for _, m := range l {
		if !isOf(m, offices) {
			return api.Court{}, api.ErrMessage
		}
		c.Log = put(c.Log, m)
	}
	for _, m := range own(c) {
		c.Day = max(c.Day, m.Day)
	}
	if err := Check(c); err != api.OK {
		return api.Court{}, err
	}
	return c, api.OK
}

// own returns the messages of the office of c, in the memory of its log.
func own(c api.Court) []api.Message {
	isOwn := func(m api.Message) bool { return m.From == c.Me }
	from := slices.IndexFunc(c.Log, isOwn)
	if from < 0 {
		return nil
	}
	l := c.Log[from:]
	to := slices.IndexFunc(l, func(m api.Message) bool { return !isOwn(m) })
	if to < 0 {
		return l
	}
	return l[:to]
}

// Say returns c with a further message of its own office, and this message.
func Say(c api.Court, m api.Message) (api.Court, api.Message, api.Errno) {
	if err := Check(c); err != api.OK {
		return api.Court{}, api.Message{}, err
	}
	m.From, m.No, m.Day = c.Me, len(own(c)), c.Day
	if err := checkSaid(c, m); err != api.OK {
		return api.Court{}, api.Message{}, err
	}
	c.Log = put(slices.Clone(c.Log), m)
	return c, m, api.OK
}

// checkSaid returns why the office of c cannot say m next; OK if it can.
func checkSaid(c api.Court, m api.Message) api.Errno {
	if m.No == api.MaxEntries {
		return api.ErrLimit
	}
	if err := CheckMessage(m); err != api.OK {
		return err
	}
	t := c.Terms
	switch m.Kind {
	case api.ObjectM:
		return checkTime(c, m, t.Notice)
	case api.SampleM, api.DropM:
		return checkTime(c, m, t.Notice+t.Sampling)
	case api.GiveM, api.BuryM:
		return checkHeld(c, m)
	}
	return api.OK
}

// checkTime returns ErrNone unless the claim is heard that m is about, ErrLate if it was made more than so many days ahead of m.
func checkTime(c api.Court, m api.Message, days int) api.Errno {
	claim, is := heardWith(c, m.Claim, api.ClaimM)
	if !is {
		return api.ErrNone
	}
	if m.Day > claim.Day+days {
		return api.ErrLate
	}
	return api.OK
}

// checkHeld returns ErrNone unless the lease is heard that m is about, ErrLease unless the office of c can give it back, or bury under it.
func checkHeld(c api.Court, m api.Message) api.Errno {
	lease, is := heardWith(c, m.Claim, api.LeaseM)
	if !is {
		return api.ErrNone
	}
	if m.Kind == api.GiveM && lease.From != c.Me {
		return api.ErrLease
	}
	if m.Kind == api.BuryM && !open(c).may(m.Claim) {
		return api.ErrLease
	}
	return api.OK
}
