package court_test

import (
	"math"
	"testing"

	"bonehouse/api"
	"bonehouse/court"
)

// question is a call of a function with a court: whether all of its results are zero values, and its error.
type question struct {
	number bool // whether it asks for the number of a message
	ask    func(c api.Court, n int) (bool, api.Errno)
}

// questions returns all functions with a court; n stands for their other numbers.
func questions() []question {
	other := api.Court{Offices: 1, Terms: terms()}
	isZero := func(c api.Court) bool { return sameCourt(c, api.Court{}) }
	return []question{
		{false, func(c api.Court, _ int) (bool, api.Errno) { return true, court.Check(c) }},
		{false, func(c api.Court, n int) (bool, api.Errno) {
			d, err := court.Tick(c, n)
			return isZero(d), err
		}},
		{false, func(c api.Court, n int) (bool, api.Errno) {
			d, m, err := court.Say(c, api.Message{Kind: n})
			return isZero(d) && m == api.Message{}, err
		}},
		{false, func(c api.Court, n int) (bool, api.Errno) {
			d, err := court.Deliver(c, api.Message{From: 1, Kind: n})
			return isZero(d), err
		}},
		{false, func(c api.Court, _ int) (bool, api.Errno) {
			d, err := court.Merge(c, other)
			return isZero(d), err
		}},
		{false, func(c api.Court, _ int) (bool, api.Errno) {
			d, err := court.Merge(other, c)
			return isZero(d), err
		}},
		{false, func(c api.Court, _ int) (bool, api.Errno) {
			l, err := court.Heard(c)
			return len(l) == 0, err
		}},
		{false, func(c api.Court, _ int) (bool, api.Errno) {
			l, err := court.Tally(c)
			return len(l) == 0, err
		}},
		{false, func(c api.Court, n int) (bool, api.Errno) {
			l, err := court.Wanted(c, []int{n, n})
			return len(l) == 0, err
		}},
		{false, func(c api.Court, _ int) (bool, api.Errno) {
			n, err := court.Closed(c)
			return n == 0, err
		}},
		{false, func(c api.Court, _ int) (bool, api.Errno) {
			l, err := court.Record(c)
			return len(l) == 0, err
		}},
		{false, func(c api.Court, _ int) (bool, api.Errno) {
			is, err := court.Same(c, other)
			return !is, err
		}},
		{false, func(c api.Court, _ int) (bool, api.Errno) {
			is, err := court.Same(other, c)
			return !is, err
		}},
		{false, func(c api.Court, _ int) (bool, api.Errno) {
			l, err := court.Claims(c)
			return len(l) == 0, err
		}},
		{true, func(c api.Court, n int) (bool, api.Errno) {
			state, day, err := court.Status(c, n)
			return state == 0 && day == 0, err
		}},
		{false, func(c api.Court, _ int) (bool, api.Errno) {
			l, err := court.Rulings(c)
			return len(l) == 0, err
		}},
		{true, func(c api.Court, n int) (bool, api.Errno) {
			l, err := court.Rests(c, n)
			return len(l) == 0, err
		}},
		{false, func(c api.Court, _ int) (bool, api.Errno) {
			l, err := court.Leases(c)
			return len(l) == 0, err
		}},
		{true, func(c api.Court, n int) (bool, api.Errno) {
			is, err := court.May(c, n)
			return !is, err
		}},
		{false, func(c api.Court, _ int) (bool, api.Errno) {
			l, err := court.Buried(c)
			return len(l) == 0, err
		}},
	}
}

// wrongCourts returns courts that are not valid.
func wrongCourts(t *testing.T) []api.Court {
	t.Helper()
	right := example(t, 2, 0, "0 0 3 claim 7 100", "0 1 4 keep", "1 0 6 object 0 200", "1 1 8 keep")
	l := []api.Court{{}, {Terms: terms()}, {Offices: 1}}
	with := func(change func(c *api.Court)) {
		c := copied(right)
		change(&c)
		l = append(l, c)
	}
	for _, n := range []int{0, -1, 1, 9, 64, math.MinInt, math.MaxInt} {
		with(func(c *api.Court) { c.Offices = n })
	}
	for _, n := range []int{-1, 2, 3, 64, math.MinInt, math.MaxInt} {
		with(func(c *api.Court) { c.Me = n })
	}
	for _, n := range []int{3, 0, -1, 1048577, math.MinInt, math.MaxInt} {
		with(func(c *api.Court) { c.Day = n })
	}
	for _, n := range []int{0, -1, 1001, math.MinInt, math.MaxInt} {
		with(func(c *api.Court) { c.Terms.Notice = n })
		with(func(c *api.Court) { c.Terms.Sampling = n })
		with(func(c *api.Court) { c.Terms.Lease = n })
	}
	for i := range right.Log {
		with(func(c *api.Court) { c.Log[i] = api.Message{} })
		with(func(c *api.Court) { c.Log[i].Kind = 9 })
		with(func(c *api.Court) { c.Log[i].Value = 1 })
		with(func(c *api.Court) { c.Log[i].From = 2 })
		with(func(c *api.Court) { c.Log[i].No = 64 })
		with(func(c *api.Court) { c.Log[i].Day = -1 })
		with(func(c *api.Court) { c.Log[i].No, c.Log[i].From = -1, 1 })
		with(func(c *api.Court) { c.Log = append(c.Log, c.Log[i]) })
	}
	// What an office has written itself has no gap, and no day that becomes less, or is behind its own.
	for _, texts := range [][]string{
		{"0 1 4 keep"}, {"0 0 4 keep", "0 2 4 keep"}, {"0 0 4 keep", "0 1 3 keep"}, {"0 0 4 keep", "0 1 4 keep", "0 2 4 keep", "0 3 5 keep"}, {"0 0 5 keep"}, {"0 0 4 keep", "0 1 4 keep", "0 2 3 keep", "0 3 4 keep"},
		{"1 0 4 keep", "0 0 4 keep"}, {"1 1 4 keep", "1 0 4 keep"}, {"1 0 4 keep", "1 0 4 keep"}, {"1 0 4 keep", "1 0 5 keep"}, {"0 0 4 keep", "0 0 4 keep"}, {"1 0 4 keep", "2 0 4 keep"},
	} {
		with(func(c *api.Court) { c.Log = parseAll(t, texts...) })
	}
	// The same for the last office.
	for _, texts := range [][]string{{"0 5 9 keep", "1 1 4 keep"}, {"1 0 5 keep"}, {"1 0 3 keep", "1 1 2 keep"}} {
		with(func(c *api.Court) { c.Me, c.Log = 1, parseAll(t, texts...) })
	}
	with(func(c *api.Court) { c.Log = make([]api.Message, 1<<16) })
	with(func(c *api.Court) {
		c.Offices, c.Log = 8, largest().Log
		c.Log = append(c.Log, c.Log[511])
	})
	return l
}

// P8.2 to P8.5: of a court that is not valid nothing is told, whatever else is wrong.
func TestCourtErrors(t *testing.T) {
	for k, c := range wrongCourts(t) {
		for i, x := range questions() {
			for _, n := range []int{0, 1, -1, 512, math.MinInt, math.MaxInt} {
				if zero, err := x.ask(c, n); !zero || err != api.ErrCourt {
					t.Error(k, i, n, zero, err)
				}
			}
		}
		right := api.Court{Offices: c.Offices, Terms: c.Terms}
		for _, pair := range [][2]api.Court{{c, c}, {c, right}, {right, c}} {
			if d, err := court.Merge(pair[0], pair[1]); !sameCourt(d, api.Court{}) || err != api.ErrCourt {
				t.Error(k, pair, d, err)
			}
			if is, err := court.Same(pair[0], pair[1]); is || err != api.ErrCourt {
				t.Error(k, pair, is, err)
			}
		}
	}
}

// P8.4 and P8.5: numbers that no message can have, and such that none has.
func TestNumberErrors(t *testing.T) {
	for _, c := range []api.Court{example(t, 2, 0, "0 0 3 claim 7 100", "0 1 90 keep", "1 0 90 keep"), {Offices: 1, Terms: terms()}, largest()} {
		for i, x := range questions() {
			if !x.number {
				continue
			}
			for _, n := range []int{-1, 512, 513, -512, 1 << 32, math.MinInt, math.MaxInt} {
				if zero, err := x.ask(c, n); !zero || err != api.ErrArg {
					t.Error(i, n, zero, err)
				}
			}
			for n := range 512 {
				if _, err := x.ask(c, n); err != api.OK && err != api.ErrNone {
					t.Error(i, n, err)
				}
			}
		}
	}
}

// P8.4: a number that is not that of a claim, of one of which it is not known yet, and of one without a ruling.
func TestNoClaim(t *testing.T) {
	c := example(t, 3, 2, "0 0 3 claim 7 100", "0 1 3 object 0 200", "0 2 7 claim 8 100", "0 3 8 claim 9 100", "0 4 9 lease 7 1", "0 5 7 claim 9 100", "1 0 8 keep", "1 2 9 claim 7 300", "2 0 8 keep")
	for no, want := range map[int][2]api.Errno{0: {api.OK, api.ErrNone}, 1: {api.ErrNone, api.ErrNone}, 2: {api.OK, api.ErrNone}, 3: {api.ErrNone, api.ErrNone}, 4: {api.ErrNone, api.ErrNone}, 5: {api.ErrNone, api.ErrNone}, 64: {api.ErrNone, api.ErrNone}, 66: {api.ErrNone, api.ErrNone}, 6: {api.ErrNone, api.ErrNone}, 511: {api.ErrNone, api.ErrNone}} {
		state, day, err := court.Status(c, no)
		if err != want[0] || err != api.OK && (state != 0 || day != 0) {
			t.Error(no, state, day, err)
		}
		if l, err := court.Rests(c, no); err != want[1] || len(l) != 0 {
			t.Error(no, l, err)
		}
	}
}

// R1: calls with as many messages as there can be.
func TestLargestCourt(t *testing.T) {
	c := largest()
	for i, x := range questions() {
		_, err := x.ask(c, 1)
		if err != api.OK && err != api.ErrLimit && err != api.ErrMessage && err != api.ErrArg && err != api.ErrNone {
			t.Error(i, err)
		}
	}
	if l := claimsOf(t, c); len(l) != 8*63 || l[0].No != 0 || l[1].No != 64 || l[8].No != 1 {
		t.Error(len(l))
	}
	for i := range c.Log {
		c.Log[i].Kind, c.Log[i].Family = api.LeaseM, 0
		c.Log[i].Find, c.Log[i].Grave = i, 4095-i
	}
	l := leasesOf(t, c)
	for _, x := range l {
		if !x.Granted {
			t.Error(x)
		}
	}
	if len(l) != 8*63 {
		t.Error(len(l))
	}
}
