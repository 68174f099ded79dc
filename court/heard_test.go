package court_test

import (
	"math"
	"slices"
	"testing"

	"bonehouse/api"
	"bonehouse/court"
)

// P8.3: Heard, Tally, Closed and Record of random courts, with gaps and days that become less.
func TestHeard(t *testing.T) {
	seen := map[string]int{}
	for _, c := range someCourts(t, 11, 2500) {
		x := tell(c)
		if l := heardOf(t, c); !slices.Equal(l, x.heard) {
			t.Fatal(c, l)
		}
		if l, err := court.Tally(c); !slices.Equal(l, x.tally()) || err != api.OK {
			t.Fatal(c, l, err)
		}
		if n := closedOf(t, c); n != x.closed {
			t.Fatal(c, n)
		}
		if l := recordOf(t, c); !slices.Equal(l, x.record) {
			t.Fatal(c, l)
		}
		if len(x.heard) < len(c.Log) {
			seen["unheard"]++
		}
		if x.closed < 0 {
			seen["nothing closed"]++
		}
		if len(x.record) > 0 && len(x.record) < len(x.heard) {
			seen["open days"]++
		}
	}
	for _, s := range []string{"unheard", "nothing closed", "open days"} {
		if seen[s] < 300 {
			t.Error(s, seen[s])
		}
	}
}

// P8.3: what is heard is told office by office: neither a gap nor a day that becomes less of one makes a difference to another one.
func TestHeardOf(t *testing.T) {
	for _, x := range []struct {
		texts  []string
		tally  []int
		closed int
	}{
		{nil, []int{0, 0, 0}, -1},
		{[]string{"0 0 9 keep", "1 0 9 keep"}, []int{1, 1, 0}, -1},
		{[]string{"0 0 9 keep", "1 0 8 keep", "2 0 10 keep"}, []int{1, 1, 1}, 7},
		{[]string{"0 0 9 keep", "1 0 0 keep", "2 0 10 keep"}, []int{1, 1, 1}, -1},
		{[]string{"0 0 1 keep", "1 0 1 keep", "2 0 1 keep"}, []int{1, 1, 1}, 0},
		{[]string{"0 1 9 keep", "1 0 8 keep", "2 0 10 keep"}, []int{0, 1, 1}, -1},
		{[]string{"0 0 9 keep", "0 2 50 keep", "1 0 8 keep", "1 1 8 keep", "1 2 8 keep", "2 0 10 keep", "2 1 9 keep", "2 2 90 keep"}, []int{1, 3, 1}, 7},
		{[]string{"0 0 9 keep", "0 1 8 keep", "0 2 9 keep", "1 1 8 keep", "1 2 8 keep", "2 0 10 keep"}, []int{1, 0, 1}, -1},
		{[]string{"0 0 9 keep", "0 1 8 keep", "0 2 9 keep", "0 3 10 keep", "1 0 11 keep", "2 0 10 keep", "2 1 10 keep"}, []int{1, 1, 2}, 8},
		{[]string{"0 0 1048576 keep", "1 0 1048576 keep", "2 0 1048576 keep"}, []int{1, 1, 1}, 1048575},
	} {
		c := replay(t, 4, 3, terms(), append(parseAll(t, x.texts...), parse(t, "3 0 1048576 keep")))
		if l, err := court.Tally(c); !slices.Equal(l, append(slices.Clone(x.tally), 1)) || err != api.OK {
			t.Error(x, l, err)
		}
		if n := closedOf(t, c); n != x.closed {
			t.Error(x, n)
		}
	}
	if n := closedOf(t, largest()); n != 1048575 {
		t.Error(n)
	}
	if l := heardOf(t, largest()); len(l) != 512 {
		t.Error(len(l))
	}
}

// P8.3: the record goes by days, and on one day by offices.
func TestRecord(t *testing.T) {
	c := example(t, 3, 0, "0 0 3 keep", "0 1 5 keep", "0 2 5 keep", "0 3 9 keep", "1 0 3 keep", "1 1 4 keep", "1 2 5 keep", "1 3 7 keep", "2 0 2 keep", "2 1 5 keep", "2 2 6 keep")
	want := parseAll(t, "2 0 2 keep", "0 0 3 keep", "1 0 3 keep", "1 1 4 keep", "0 1 5 keep", "0 2 5 keep", "1 2 5 keep", "2 1 5 keep")
	if l := recordOf(t, c); !slices.Equal(l, want) {
		t.Error(l)
	}
}

// P8.3: Wanted, of random courts and tallies.
func TestWanted(t *testing.T) {
	x := noise(12)
	for _, c := range someCourts(t, 13, 600) {
		heard := tell(c).heard
		for range 4 {
			var have []int
			for range c.Offices {
				have = append(have, x.below(65)/x.from(1, 20))
			}
			before := slices.Clone(have)
			l, err := court.Wanted(c, have)
			want := filtered(heard, func(m api.Message) bool { return m.No >= have[m.From] })
			if !slices.Equal(l, want) || err != api.OK || !slices.Equal(have, before) {
				t.Fatal(c, have, l, err)
			}
		}
	}
	for n := range 65 {
		if l, err := court.Wanted(largest(), []int{64, 64, 64, n, 64, 64, 64, 64}); len(l) != 64-n || err != api.OK {
			t.Error(n, l, err)
		}
	}
}

// P8.3: lists that are no tallies of the offices.
func TestWantedErrors(t *testing.T) {
	c := example(t, 3, 0, "0 0 3 keep", "1 0 3 keep")
	for _, have := range [][]int{nil, {}, {0}, {0, 0}, {0, 0, 0, 0}, make([]int, 8), make([]int, 1000), {65, 0, 0}, {0, 65, 0}, {0, 0, 65}, {-1, 0, 0}, {0, 0, -1}, {0, math.MinInt, 0}, {math.MaxInt, 0, 0}} {
		if l, err := court.Wanted(c, have); len(l) != 0 || err != api.ErrArg {
			t.Error(have, l, err)
		}
	}
	if l, err := court.Wanted(c, []int{64, 0, 64}); len(l) != 1 || err != api.OK {
		t.Error(l, err)
	}
}

// others returns a court of another office on another day that has heard the same, and has other messages that do not count.
func others(t testing.TB, x *noise, c api.Court) api.Court {
	t.Helper()
	heard := tell(c).heard
	tally := tell(c).tally()
	d := replay(t, c.Offices, x.below(c.Offices), c.Terms, heard)
	d.Day += x.below(9)
	for from, n := range tally {
		if n < 62 && from != d.Me && x.below(2) == 0 {
			m := aMessage(x, ways{offices: c.Offices, finds: 3, families: 3}, nil)
			m.From, m.No, m.Day = from, n+1, x.below(99)
			d.Log = delivered(d.Log, m)
		}
	}
	return d
}

// P8.3 and P8.9: courts that have heard the same have the same record, claims, rulings, leases and burials.
func TestSame(t *testing.T) {
	x := noise(14)
	for _, c := range someCourts(t, 15, 800) {
		d := others(t, &x, c)
		for _, pair := range [][2]api.Court{{c, d}, {d, c}, {c, c}} {
			if is, err := court.Same(pair[0], pair[1]); !is || err != api.OK {
				t.Fatal(pair, is, err)
			}
		}
		if !slices.Equal(recordOf(t, c), recordOf(t, d)) || !slices.EqualFunc(claimsOf(t, c), claimsOf(t, d), sameClaim) || !slices.Equal(rulingsOf(t, c), rulingsOf(t, d)) || !slices.Equal(leasesOf(t, c), leasesOf(t, d)) || !slices.Equal(burialsOf(t, c), burialsOf(t, d)) {
			t.Fatal(c, d)
		}
		for _, claim := range claimsOf(t, c) {
			s, day, err := court.Status(c, claim.No)
			z, other, fault := court.Status(d, claim.No)
			l, none := court.Rests(c, claim.No)
			m, no := court.Rests(d, claim.No)
			if s != z || day != other || err != api.OK || fault != api.OK || !slices.Equal(l, m) || none != no {
				t.Fatal(c, d, claim)
			}
		}
	}
}

// P8.3: courts that have not heard the same.
func TestNotSame(t *testing.T) {
	x := noise(16)
	seen := map[string]int{}
	for _, c := range someCourts(t, 17, 800) {
		for _, i := range x.order(len(c.Log)) {
			m := c.Log[i]
			if m.From == c.Me {
				continue
			}
			d := c
			if x.below(2) == 0 {
				d.Log = slices.Delete(slices.Clone(c.Log), i, i+1)
			} else {
				d.Log = slices.Clone(c.Log)
				d.Log[i] = variants(&x, m)[3]
			}
			want := slices.Equal(tell(c).heard, tell(d).heard)
			for _, pair := range [][2]api.Court{{c, d}, {d, c}} {
				if is, err := court.Same(pair[0], pair[1]); is != want || err != api.OK {
					t.Fatal(pair, is, err)
				}
			}
			if want {
				seen["same"]++
			} else {
				seen["not"]++
			}
			break
		}
	}
	if seen["same"] < 10 || seen["not"] < 200 {
		t.Error(seen)
	}
}

// R2: what is told is new memory each time.
func TestFreshLists(t *testing.T) {
	c := copied(example(t, 2, 0, "0 0 3 claim 7 100", "0 1 4 lease 7 3", "0 2 12 bury 1", "0 3 40 keep", "1 0 6 object 0 200", "1 1 8 object 0 300", "1 2 40 keep"))
	before := copied(c)
	have := []int{0, 0}
	for range 2 {
		heard, record, claims, rulings, leases, burials := heardOf(t, c), recordOf(t, c), claimsOf(t, c), rulingsOf(t, c), leasesOf(t, c), burialsOf(t, c)
		tally, _ := court.Tally(c)
		wanted, _ := court.Wanted(c, have)
		rests, _ := court.Rests(c, 0)
		if len(heard) != 7 || len(record) != 5 || len(claims) != 1 || !slices.Equal(claims[0].Families, []int{200, 300}) || len(rulings) != 1 || len(leases) != 1 || len(burials) != 1 || !slices.Equal(tally, []int{4, 3}) || len(wanted) != 7 || !slices.Equal(rests, []int{0, 64, 65}) {
			t.Fatal(heard, record, claims, rulings, leases, burials, tally, wanted, rests)
		}
		for _, l := range [][]api.Message{heard, record, wanted} {
			for i := range cap(l) {
				l[:cap(l)][i] = api.Message{Kind: -1}
			}
		}
		claims[0].Families[0], claims[0], rulings[0], leases[0], burials[0] = 9, api.Claim{}, api.Ruling{}, api.Lease{}, api.Burial{}
		tally[0], rests[0] = 9, 9
		if !sameCourt(c, before) || !slices.Equal(have, []int{0, 0}) {
			t.Fatal(c, have)
		}
	}
}
