package court_test

import (
	"slices"
	"testing"

	"bonehouse/api"
	"bonehouse/court"
)

// tellsLeases checks what is told of leases by the chapter's words.
func tellsLeases(t testing.TB, c api.Court) holdings {
	t.Helper()
	y := tell(c).holdings()
	if l := leasesOf(t, c); !slices.Equal(l, y.leases()) {
		t.Fatal(c, l, y.leases())
	}
	if l := burialsOf(t, c); !slices.Equal(l, y.burials()) {
		t.Fatal(c, l, y.burials())
	}
	return y
}

// mays checks what May says of a lease by the chapter's words, and returns it.
func mays(t testing.TB, y *holdings, no int) bool {
	t.Helper()
	is, err := court.May(y.c, no)
	if is != y.may(no) || err != api.OK {
		t.Fatal(y.c, no, is, err)
	}
	return is
}

// P8.5: leases and burials of random courts, and which of these an office may use.
func TestLeases(t *testing.T) {
	seen := map[string]int{}
	for i, c := range someCourts(t, 30, 4000) {
		if i%2 == 0 {
			c.Terms.Lease = 60
		}
		y := tellsLeases(t, c)
		for at, m := range y.record {
			switch {
			case y.granted[at]:
				seen["granted"]++
			case m.Kind == api.LeaseM:
				seen["not granted"]++
			case y.burial[at]:
				seen["burial"]++
			case m.Kind == api.BuryM:
				seen["no burial"]++
			}
			if m.Kind == api.LeaseM && m.From == c.Me {
				if mays(t, &y, number(m)) {
					seen["may"]++
				} else {
					seen["may not"]++
				}
			}
		}
		for i, m := range c.Log {
			if i%8 == 0 {
				mays(t, &y, number(m))
			}
		}
	}
	for _, s := range []string{"granted", "not granted", "burial", "no burial", "may", "may not"} {
		if seen[s] < 300 {
			t.Error(s, seen[s])
		}
	}
}

// P8.5: all lists of up to four messages about leases of a find and a grave, of each with another one, by one office, with short leases.
func TestAllShortHoldings(t *testing.T) {
	deeds := []api.Message{
		{Kind: api.LeaseM}, {Kind: api.LeaseM, Grave: 1}, {Kind: api.LeaseM, Find: 1},
		{Kind: api.GiveM}, {Kind: api.GiveM, Claim: 1}, {Kind: api.BuryM}, {Kind: api.BuryM, Claim: 1},
	}
	n := 0
	var further func(l []api.Message)
	further = func(l []api.Message) {
		day := 0
		if len(l) > 0 {
			day = l[len(l)-1].Day
		}
		c := api.Court{Offices: 1, Day: day + 1, Terms: api.Terms{Notice: 1, Sampling: 1, Lease: 1}, Log: slices.Clone(l)}
		c.Log = append(c.Log, api.Message{No: len(l), Day: day + 1, Kind: api.KeepM})
		y := tellsLeases(t, c)
		mays(t, &y, 0)
		mays(t, &y, 1)
		n++
		if len(l) == 4 {
			return
		}
		for _, m := range deeds {
			for days := range 3 {
				m.No, m.Day = len(l), day+days
				further(append(slices.Clone(l), m))
			}
		}
	}
	further(nil)
	if n != 1+21+21*21+21*21*21+21*21*21*21 {
		t.Error(n)
	}
}

// P8.5: to the day, and by offices, which leases are granted, and what is a burial; the office 0 has the lease 0 of the find 7 and the grave 3 from day 10 to day 30, that of the office 1 is not granted.
func TestHoldings(t *testing.T) {
	for i, x := range []struct {
		texts   []string
		granted []int
		buried  []api.Burial
	}{
		{nil, []int{0}, nil},
		// One find, one grave, or neither, while the lease is held, and behind its last day.
		{[]string{"1 1 30 lease 7 5", "1 2 30 lease 8 3", "1 3 30 lease 8 5", "1 4 30 lease 3 7"}, []int{0, 67, 68}, nil},
		{[]string{"1 1 31 lease 7 5", "1 2 31 lease 8 3"}, []int{0, 65, 66}, nil},
		{[]string{"1 1 31 lease 7 5", "1 2 31 lease 8 5", "1 3 31 lease 7 6"}, []int{0, 65}, nil},
		// What was not granted keeps nobody off.
		{[]string{"1 1 31 lease 9 4"}, []int{0, 65}, nil},
		{[]string{"1 1 11 lease 8 4"}, []int{0, 65}, nil},
		// Given back: by the office itself alone, ahead in the record.
		{[]string{"0 1 12 give 0", "1 1 12 lease 7 5"}, []int{0, 65}, nil},
		{[]string{"0 1 12 give 0", "1 1 11 lease 7 5"}, []int{0}, nil},
		{[]string{"0 1 12 lease 7 5", "0 2 12 give 0", "1 1 12 lease 7 6"}, []int{0, 65}, nil},
		{[]string{"1 1 11 give 0", "1 2 12 lease 7 5"}, []int{0}, nil},
		{[]string{"0 1 12 give 64", "0 2 12 lease 7 5"}, []int{0}, nil},
		{[]string{"0 1 12 give 2", "0 2 12 lease 7 5", "0 3 12 lease 8 3"}, []int{0}, nil},
		{[]string{"0 1 12 give 0", "0 2 12 bury 0", "0 3 13 lease 7 3", "0 4 14 bury 3"}, []int{0, 3}, []api.Burial{{Find: 7, Grave: 3, Lease: 3, Day: 14}}},
		// A lease that is asked for later than it is given back, or buried under.
		{[]string{"0 1 12 give 2", "0 2 12 lease 8 5", "1 1 12 lease 8 6"}, []int{0, 2}, nil},
		{[]string{"0 1 12 bury 2", "0 2 12 lease 8 5"}, []int{0, 2}, nil},
		// Burials: on the last day, by the office itself, once.
		{[]string{"0 1 30 bury 0"}, []int{0}, []api.Burial{{Find: 7, Grave: 3, Lease: 0, Day: 30}}},
		{[]string{"0 1 31 bury 0"}, []int{0}, nil},
		{[]string{"0 1 10 bury 0", "0 2 11 bury 0", "0 3 12 give 0", "0 4 13 bury 0"}, []int{0}, []api.Burial{{Find: 7, Grave: 3, Lease: 0, Day: 10}}},
		{[]string{"1 1 12 bury 0", "1 2 12 bury 64"}, []int{0}, nil},
		{[]string{"0 1 12 bury 1", "0 2 12 bury 64", "0 3 12 bury 511", "0 4 12 keep", "0 5 12 bury 4"}, []int{0}, nil},
		// What is buried stays so, whether the lease is over, or given back.
		{[]string{"0 1 12 bury 0", "0 2 13 give 0", "0 3 13 lease 7 9", "0 4 13 lease 9 3", "1 1 40 lease 7 8", "1 2 40 lease 8 3", "1 3 40 lease 8 9"}, []int{0, 67}, []api.Burial{{Find: 7, Grave: 3, Lease: 0, Day: 12}}},
		{[]string{"0 1 12 bury 0", "0 2 12 lease 8 9", "0 3 13 bury 2", "1 1 13 lease 8 4", "1 2 13 lease 1 9"}, []int{0, 2}, []api.Burial{{Find: 7, Grave: 3, Lease: 0, Day: 12}, {Find: 8, Grave: 9, Lease: 2, Day: 13}}},
		{[]string{"1 1 12 lease 7 5", "0 1 12 bury 0", "1 2 12 lease 8 3"}, []int{0}, []api.Burial{{Find: 7, Grave: 3, Lease: 0, Day: 12}}},
	} {
		l := parseAll(t, append([]string{"0 0 10 lease 7 3", "1 0 10 lease 7 4"}, x.texts...)...)
		for from := range 2 {
			l = append(l, api.Message{From: from, No: 10, Day: 99, Kind: api.KeepM})
			for no := range 10 {
				if having(l, 64*from+no) < 0 {
					l = append(l, api.Message{From: from, No: no, Day: 99, Kind: api.KeepM})
				}
			}
		}
		c := replay(t, 2, 0, terms(), l)
		tellsLeases(t, c)
		var granted []int
		for _, y := range leasesOf(t, c) {
			if y.Granted {
				granted = append(granted, y.No)
			}
			if y.Until != y.Day+20 {
				t.Error(i, y)
			}
		}
		if b := burialsOf(t, c); !slices.Equal(granted, x.granted) || !slices.Equal(b, x.buried) {
			t.Error(i, granted, b)
		}
	}
}

// P8.5: the chapter's example: the office 0 may bury on day 30, not on day 31; the other one never.
func TestMay(t *testing.T) {
	l := []string{"0 0 10 lease 7 3", "0 1 11 keep", "1 0 10 lease 7 4", "1 1 11 keep"}
	for me := range 2 {
		c := example(t, 2, me, l...)
		if closedOf(t, c) != 10 {
			t.Error(c)
		}
		for day := 11; day < 40; day++ {
			c.Day = day
			for no := range 512 {
				if is, err := court.May(c, no); is != (me == 0 && no == 0 && day <= 30) || err != api.OK {
					t.Error(me, day, no, is, err)
				}
			}
		}
	}
	// As long as its day is not closed nobody knows of a lease.
	c := example(t, 2, 0, l[:3]...)
	if is, err := court.May(c, 0); is || err != api.OK {
		t.Error(is, err)
	}
	// What the office has written itself counts at once, also if it is ahead of the lease; what others write does not.
	for _, x := range []struct {
		texts []string
		want  bool
	}{
		{[]string{"0 2 11 bury 0"}, false}, {[]string{"0 2 11 give 0"}, false}, {[]string{"0 2 11 bury 1", "0 3 11 give 64"}, true}, {[]string{"0 2 11 object 0 4", "0 3 11 drop 0 4"}, true},
		{[]string{"1 2 11 bury 0", "1 3 11 give 0"}, true},
	} {
		c := example(t, 2, 0, append(l, x.texts...)...)
		if is, err := court.May(c, 0); is != x.want || err != api.OK {
			t.Error(x, is, err)
		}
	}
	for _, s := range []string{"give", "bury"} {
		c := example(t, 1, 0, "0 0 10 "+s+" 1", "0 1 10 lease 7 3", "0 2 11 keep")
		if is, err := court.May(c, 1); is || err != api.OK {
			t.Error(s, is, err)
		}
	}
}

// neverTwice fails if a find was buried twice, or a grave used twice.
func neverTwice(t testing.TB, l []api.Burial) {
	t.Helper()
	finds, graves := map[int]bool{}, map[int]bool{}
	for _, b := range l {
		if finds[b.Find] || graves[b.Grave] {
			t.Fatal(l)
		}
		finds[b.Find], graves[b.Grave] = true, true
	}
}

// P8.7: of the burials of a court no two have the same find or the same grave, whatever offices write.
func TestNeverTwice(t *testing.T) {
	most := 0
	for _, c := range someCourts(t, 31, 4000) {
		l := burialsOf(t, c)
		neverTwice(t, l)
		most = max(most, len(l))
	}
	if most < 3 {
		t.Error(most)
	}
}
