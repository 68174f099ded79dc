package court_test

import (
	"math"
	"slices"
	"testing"

	"bonehouse/api"
	"bonehouse/court"
)

// P8.2: New makes the court that it is asked for.
func TestNew(t *testing.T) {
	for offices := 1; offices <= 8; offices++ {
		for me := range offices {
			for _, x := range []api.Terms{{Notice: 1, Sampling: 1, Lease: 1}, {Notice: 1000, Sampling: 1000, Lease: 1000}, terms()} {
				c, err := court.New(offices, me, x)
				if !sameCourt(c, api.Court{Offices: offices, Me: me, Terms: x}) || err != api.OK || court.Check(c) != api.OK {
					t.Error(offices, me, x, c, err)
				}
			}
		}
	}
}

// P8.2: New and Replay of a court that is not valid.
func TestNewErrors(t *testing.T) {
	try := func(offices, me int, x api.Terms) {
		t.Helper()
		if c, err := court.New(offices, me, x); !sameCourt(c, api.Court{}) || err != api.ErrArg {
			t.Error(offices, me, x, c, err)
		}
		for _, l := range [][]api.Message{nil, {{}}, {{Kind: api.KeepM}}} {
			if c, err := court.Replay(offices, me, x, l); !sameCourt(c, api.Court{}) || err != api.ErrArg {
				t.Error(offices, me, x, l, c, err)
			}
		}
	}
	for _, n := range []int{0, 9, -1, 64, math.MinInt, math.MaxInt} {
		try(n, 0, terms())
	}
	for offices := 1; offices <= 8; offices++ {
		for _, n := range []int{-1, offices, offices + 1, math.MinInt, math.MaxInt} {
			try(offices, n, terms())
		}
	}
	for _, n := range []int{0, -1, 1001, 1002, math.MinInt, math.MaxInt} {
		try(2, 0, api.Terms{Notice: n, Sampling: 10, Lease: 20})
		try(2, 0, api.Terms{Notice: 5, Sampling: n, Lease: 20})
		try(2, 0, api.Terms{Notice: 5, Sampling: 10, Lease: n})
	}
}

// largest returns a court with as many messages as there can be.
func largest() api.Court {
	c := api.Court{Offices: 8, Me: 7, Day: 1048576, Terms: api.Terms{Notice: 1000, Sampling: 1000, Lease: 1000}}
	for n := range 512 {
		c.Log = append(c.Log, api.Message{From: n / 64, No: n % 64, Day: 1048513 + n%64, Kind: api.ClaimM, Find: 4095, Family: 4095})
	}
	return c
}

// P8.2: courts that are valid: what other offices write may have gaps, days that become less, and days behind that of the court.
func TestValidCourts(t *testing.T) {
	l := []api.Court{largest(), {Offices: 1, Terms: terms()}, {Offices: 1, Day: 1048576, Terms: terms()}}
	for _, texts := range [][]string{
		{"1 0 9 keep", "1 1 9 keep", "1 2 20 keep"},
		{"0 63 1048576 keep"},
		{"0 5 9 keep", "0 7 3 keep", "0 8 30 keep", "1 0 20 keep", "2 1 50 keep"},
		{"0 0 5 object 511 4095", "1 0 0 bury 511", "1 1 0 give 0"},
	} {
		l = append(l, api.Court{Offices: 3, Me: 1, Day: 20, Terms: terms(), Log: parseAll(t, texts...)})
	}
	for _, c := range l {
		if err := court.Check(c); err != api.OK {
			t.Error(c, err)
		}
	}
}

// P8.2: Tick, as far as the last day.
func TestTick(t *testing.T) {
	c := example(t, 2, 0, "0 0 3 claim 7 100", "1 0 6 object 0 200")
	for _, x := range [][3]int{{3, 1, 4}, {3, 7, 10}, {3, 1048573, 1048576}, {1048575, 1, 1048576}} {
		c.Day = x[0]
		want := copied(c)
		want.Day = x[2]
		if d, err := court.Tick(c, x[1]); !sameCourt(d, want) || err != api.OK {
			t.Error(x, d, err)
		}
	}
	for _, days := range []int{0, -1, 1048577, math.MinInt, math.MaxInt} {
		for _, day := range []int{3, 1048576} {
			c.Day = day
			if d, err := court.Tick(c, days); !sameCourt(d, api.Court{}) || err != api.ErrArg {
				t.Error(day, days, d, err)
			}
		}
	}
	for _, x := range [][2]int{{1048576, 1}, {1048576, 1048576}, {3, 1048574}, {3, 1048576}, {1048000, 577}} {
		c.Day = x[0]
		if d, err := court.Tick(c, x[1]); !sameCourt(d, api.Court{}) || err != api.ErrLimit {
			t.Error(x, d, err)
		}
	}
	empty, _ := court.New(1, 0, terms())
	if d, err := court.Tick(empty, 1048576); d.Day != 1048576 || err != api.OK {
		t.Error(d, err)
	}
}

// R2: Tick, Say, Deliver, Merge and Replay change nothing that they are given, and what they return has memory of its own.
func TestFreshCourts(t *testing.T) {
	texts := []string{"0 0 3 claim 7 100", "0 1 4 lease 7 3", "1 0 6 object 0 200", "1 1 7 keep", "1 3 9 keep"}
	c := copied(example(t, 2, 0, texts...))
	a, b := copied(example(t, 2, 0, texts[:4]...)), copied(example(t, 2, 1, texts[2:4]...))
	l := append(make([]api.Message, 0, 9), parseAll(t, texts...)...)
	for i, make := range []func() (api.Court, api.Errno){
		func() (api.Court, api.Errno) { return court.Tick(c, 1) },
		func() (api.Court, api.Errno) {
			d, _, err := court.Say(c, api.Message{Kind: api.KeepM})
			return d, err
		},
		func() (api.Court, api.Errno) { return court.Deliver(c, parse(t, "1 2 8 keep")) },
		func() (api.Court, api.Errno) { return court.Deliver(c, parse(t, "1 4 10 keep")) },
		func() (api.Court, api.Errno) { return court.Deliver(c, parse(t, "1 1 6 keep")) },
		func() (api.Court, api.Errno) { return court.Deliver(c, parse(t, "1 1 8 keep")) },
		func() (api.Court, api.Errno) { return court.Deliver(c, parse(t, "0 1 4 lease 7 3")) },
		func() (api.Court, api.Errno) { return court.Merge(c, b) },
		func() (api.Court, api.Errno) { return court.Merge(b, a) },
		func() (api.Court, api.Errno) { return court.Merge(c, c) },
		func() (api.Court, api.Errno) { return court.Replay(2, 0, terms(), l) },
		func() (api.Court, api.Errno) { return court.Replay(2, 0, terms(), c.Log) },
	} {
		d, err := make()
		if err != api.OK {
			t.Fatal(i, err)
		}
		for k := range cap(d.Log) {
			d.Log[:cap(d.Log)][k] = api.Message{Kind: -1}
		}
		want := parseAll(t, texts...)
		if !slices.Equal(c.Log, want) || !slices.Equal(l, want) || !slices.Equal(a.Log, want[:4]) || !slices.Equal(b.Log, want[2:4]) {
			t.Fatal(i, a, b, c, l)
		}
		for _, list := range [][]api.Message{a.Log, b.Log, c.Log, l} {
			for _, m := range list[len(list):cap(list)] {
				if m != (api.Message{}) {
					t.Fatal(i, m)
				}
			}
		}
	}
}
