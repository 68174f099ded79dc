package court_test

import (
	"math"
	"slices"
	"testing"

	"bonehouse/api"
	"bonehouse/court"
)

// complete returns m as the next message of the office of a court.
func complete(c api.Court, m api.Message) api.Message {
	mine := filtered(c.Log, func(m api.Message) bool { return m.From == c.Me })
	m.From, m.No, m.Day = c.Me, len(mine), c.Day
	return m
}

// sayError returns the error of Say by the chapter's words; m is complete.
func sayError(c api.Court, m api.Message) api.Errno {
	if m.No == 64 {
		return api.ErrLimit
	}
	if court.CheckMessage(m) != api.OK {
		return api.ErrMessage
	}
	x := tell(c)
	about := api.Message{}
	if i := having(x.heard, m.Claim); i >= 0 {
		about = x.heard[i]
	}
	switch {
	case m.Kind == api.ObjectM || m.Kind == api.SampleM || m.Kind == api.DropM:
		if about.Kind != api.ClaimM {
			return api.ErrNone
		}
		if m.Kind == api.ObjectM && m.Day > x.notice(about) || m.Kind != api.ObjectM && m.Day > x.term(about) {
			return api.ErrLate
		}
	case m.Kind == api.GiveM || m.Kind == api.BuryM:
		if about.Kind != api.LeaseM {
			return api.ErrNone
		}
		y := x.holdings()
		if m.Kind == api.GiveM && about.From != c.Me || m.Kind == api.BuryM && !y.may(m.Claim) {
			return api.ErrLease
		}
	}
	return api.OK
}

// says checks what Say returns by the chapter's words, and returns its error.
func says(t testing.TB, c api.Court, m api.Message) api.Errno {
	t.Helper()
	before := copied(c)
	d, said, err := court.Say(c, m)
	if !sameCourt(c, before) {
		t.Fatal("changed", before, c)
	}
	full := complete(c, m)
	if want := sayError(c, full); err != want {
		t.Fatal(c, m, err, want)
	}
	if err != api.OK {
		if !sameCourt(d, api.Court{}) || said != (api.Message{}) {
			t.Fatal(c, m, d, said)
		}
		return err
	}
	i := having(d.Log, number(full))
	if said != full || i < 0 || d.Log[i] != full || court.Check(d) != api.OK {
		t.Fatal(c, m, d, said)
	}
	d.Log = slices.Delete(slices.Clone(d.Log), i, i+1)
	if !sameCourt(d, c) {
		t.Fatal(c, m, d)
	}
	return err
}

// P8.2: Say with random courts and messages, also such that are not valid, and about everything that there is.
func TestSay(t *testing.T) {
	x := noise(3)
	seen := map[api.Errno]int{}
	courts := someCourts(t, 4, 900)
	for range 10 {
		courts = append(courts, aCourt(t, &x, ways{offices: 2, messages: 300, finds: 3, families: 3, days: 3}))
	}
	for _, c := range courts {
		c = copied(c)
		var numbers []int
		for _, m := range c.Log {
			if m.Kind == api.ClaimM || m.Kind == api.LeaseM {
				numbers = append(numbers, number(m))
			}
		}
		for range 30 {
			m := aMessage(&x, ways{offices: c.Offices, finds: 4, families: 4}, numbers)
			m.From, m.No, m.Day = x.from(-1, 9), x.from(-1, 70), x.from(-1, 1<<30)
			if x.below(12) == 0 {
				*[]*int{&m.Kind, &m.Claim, &m.Find, &m.Family, &m.Grave, &m.Value}[x.below(6)] = []int{-1, 1, 9, 101, 512, 4096, math.MaxInt}[x.below(7)]
			}
			seen[says(t, c, m)]++
		}
	}
	for _, err := range []api.Errno{api.OK, api.ErrLimit, api.ErrMessage, api.ErrNone, api.ErrLate, api.ErrLease} {
		if seen[err] < 200 {
			t.Error(err, seen[err])
		}
	}
}

// P8.2: up to which day Say takes messages about a claim, and that it takes them only if this is heard.
func TestSayAboutClaims(t *testing.T) {
	c := example(t, 3, 1, "0 0 3 keep", "0 1 9 claim 7 100", "0 3 9 claim 8 100", "2 0 4 claim 9 200", "2 1 4 lease 7 1")
	for _, x := range []struct {
		kind, claim int
		last        int // the last day; -1 if there is no such claim
	}{
		{api.ObjectM, 1, 14}, {api.SampleM, 1, 24}, {api.DropM, 1, 24}, {api.ObjectM, 128, 9}, {api.SampleM, 128, 19}, {api.DropM, 128, 19},
		{api.ObjectM, 0, -1}, {api.ObjectM, 3, -1}, {api.SampleM, 3, -1}, {api.DropM, 3, -1}, {api.ObjectM, 129, -1}, {api.DropM, 129, -1}, {api.SampleM, 2, -1}, {api.SampleM, 64, -1}, {api.ObjectM, 511, -1},
	} {
		for day := range 40 {
			c.Day = day
			want := api.OK
			if x.last < 0 {
				want = api.ErrNone
			} else if day > x.last {
				want = api.ErrLate
			}
			for family := range 300 {
				if family%100 > 0 {
					continue
				}
				if err := says(t, c, api.Message{Kind: x.kind, Claim: x.claim, Family: family}); err != want {
					t.Error(x, day, family, err, want)
				}
			}
		}
	}
	// One's own claim is heard as soon as it is said.
	d, m, err := court.Say(c, api.Message{Kind: api.ClaimM, Find: 5, Family: 6})
	if err != api.OK || says(t, d, api.Message{Kind: api.ObjectM, Claim: number(m), Family: 7}) != api.OK {
		t.Error(d, m, err)
	}
}

// P8.2: what Say takes about leases.
func TestSayAboutLeases(t *testing.T) {
	l := []string{"0 0 10 lease 7 3", "0 1 11 keep", "1 0 10 lease 7 4", "1 1 11 keep", "1 2 11 lease 8 5", "1 4 11 lease 9 6"}
	c := example(t, 2, 0, l...)
	for _, x := range []struct {
		kind, claim, day int
		want             api.Errno
	}{
		{api.BuryM, 0, 11, api.OK}, {api.BuryM, 0, 30, api.OK}, {api.BuryM, 0, 31, api.ErrLease}, {api.GiveM, 0, 30, api.OK}, {api.GiveM, 0, 1000, api.OK},
		{api.BuryM, 64, 11, api.ErrLease}, {api.GiveM, 64, 11, api.ErrLease}, {api.BuryM, 66, 11, api.ErrLease}, {api.GiveM, 66, 11, api.ErrLease},
		{api.BuryM, 1, 11, api.ErrNone}, {api.GiveM, 1, 11, api.ErrNone}, {api.BuryM, 68, 11, api.ErrNone}, {api.GiveM, 68, 11, api.ErrNone}, {api.BuryM, 511, 11, api.ErrNone}, {api.GiveM, 2, 11, api.ErrNone},
	} {
		c.Day = x.day
		if err := says(t, c, api.Message{Kind: x.kind, Claim: x.claim}); err != x.want {
			t.Error(x, err)
		}
	}
	// A lease that was not granted, or of which it is not known yet, can be given back, but nothing is buried under it.
	c = example(t, 2, 1, append(l, "1 3 11 keep")...)
	for _, no := range []int{64, 66, 68} {
		if err := says(t, c, api.Message{Kind: api.GiveM, Claim: no}); err != api.OK {
			t.Error(no, err)
		}
		if err := says(t, c, api.Message{Kind: api.BuryM, Claim: no}); err != api.ErrLease {
			t.Error(no, err)
		}
	}
}

// P8.2: an office says 64 messages, in the middle of what it has heard, and no more.
func TestSayLimit(t *testing.T) {
	c := example(t, 3, 1, "0 0 3 keep", "2 0 3 keep")
	for n := range 64 {
		if err := says(t, c, api.Message{Kind: api.KeepM}); err != api.OK {
			t.Fatal(n, err)
		}
		c, _, _ = court.Say(c, api.Message{Kind: api.KeepM})
	}
	for _, m := range []api.Message{{Kind: api.KeepM}, {}, {Kind: api.BuryM, Claim: 3}, {Kind: api.ObjectM, Claim: 3}} {
		if err := says(t, c, m); err != api.ErrLimit {
			t.Error(m, err)
		}
	}
}

// delivered returns the log that has m as well, by the chapter's words.
func delivered(l []api.Message, m api.Message) []api.Message {
	if i := having(l, number(m)); i >= 0 {
		l = slices.Clone(l)
		if isAhead(m, l[i]) {
			l[i] = m
		}
		return l
	}
	less := filtered(l, func(x api.Message) bool { return number(x) < number(m) })
	return slices.Concat(less, []api.Message{m}, l[len(less):])
}

// variants returns messages with the number of m that differ in something.
func variants(x *noise, m api.Message) []api.Message {
	l := []api.Message{m}
	for range 3 {
		v := aMessage(x, ways{offices: 2, finds: 3, families: 3}, nil)
		v.From, v.No, v.Day = m.From, m.No, max(0, m.Day+x.from(-1, 1))
		l = append(l, v)
	}
	return l
}

// P8.2: Deliver, of further messages, of others with a number that is there, and of the office's own ones.
func TestDeliver(t *testing.T) {
	x := noise(5)
	seen := map[string]int{}
	for _, c := range someCourts(t, 6, 400) {
		c = copied(c)
		for _, m := range append(someMessages(&x, ways{offices: c.Offices, messages: 4, finds: 3, families: 3, days: 3}), c.Log...) {
			m.No = min(63, m.No+x.below(3))
			for _, v := range variants(&x, m) {
				before := copied(c)
				d, err := court.Deliver(c, v)
				if !sameCourt(c, before) {
					t.Fatal("changed", before, c)
				}
				if v.From == c.Me && !slices.Contains(c.Log, v) {
					seen["forged"]++
					if !sameCourt(d, api.Court{}) || err != api.ErrMessage {
						t.Fatal(c, v, d, err)
					}
					continue
				}
				want := c
				want.Log = delivered(c.Log, v)
				if !sameCourt(d, want) || err != api.OK || court.Check(d) != api.OK {
					t.Fatal(c, v, d, err)
				}
				switch i := having(c.Log, number(v)); {
				case i < 0:
					seen["new"]++
				case c.Log[i] == v:
					seen["known"]++
				case isAhead(v, c.Log[i]):
					seen["ahead"]++
				default:
					seen["behind"]++
				}
			}
		}
	}
	for _, s := range []string{"forged", "new", "known", "ahead", "behind"} {
		if seen[s] < 500 {
			t.Error(s, seen[s])
		}
	}
}

// P8.2: Deliver of what is not valid, or of no office.
func TestDeliverErrors(t *testing.T) {
	for offices := 1; offices <= 8; offices++ {
		c, _ := court.New(offices, 0, terms())
		for from := -1; from <= 9; from++ {
			d, err := court.Deliver(c, api.Message{From: from, Kind: api.KeepM})
			if is := 0 < from && from < offices; is != (err == api.OK) || !is && (!sameCourt(d, api.Court{}) || err != api.ErrMessage) {
				t.Error(offices, from, d, err)
			}
		}
		for _, m := range []api.Message{{}, {From: 1}, {From: 1, No: 64, Kind: api.KeepM}, {From: 1, Day: -1, Kind: api.KeepM}, {From: 1, Kind: api.KeepM, Value: 1}, {From: 1, Kind: api.ObjectM, Claim: 512}} {
			if d, err := court.Deliver(c, m); !sameCourt(d, api.Court{}) || err != api.ErrMessage {
				t.Error(offices, m, d, err)
			}
			if d, err := court.Replay(offices, 0, terms(), []api.Message{{Kind: api.KeepM}, m}); !sameCourt(d, api.Court{}) || err != api.ErrMessage {
				t.Error(offices, m, d, err)
			}
		}
	}
}

// P8.2 and P8.8: Merge of courts that have had different messages; of both ways the log is the same.
func TestMerge(t *testing.T) {
	x := noise(7)
	seen := map[string]int{}
	for range 1500 {
		w := ways{offices: x.from(1, 4), messages: x.from(0, 30), finds: 3, families: 3, days: 3}
		l, some := someMessages(&x, w), someTerms(&x)
		var courts []api.Court
		for range 2 {
			me, part, first := x.below(w.offices), x.from(0, 100), x.from(1, 30)
			c := replay(t, w.offices, me, some, filtered(l, func(m api.Message) bool { return m.From == me && m.No < first || m.From != me && x.below(100) < part }))
			for _, m := range c.Log {
				if v := variants(&x, m)[x.below(4)]; m.From != me && x.below(20) == 0 {
					c.Log = delivered(c.Log, v)
				}
			}
			courts = append(courts, copied(c))
		}
		a, b := courts[0], courts[1]
		isWrong := func(a, b api.Court) bool {
			return slices.ContainsFunc(b.Log, func(m api.Message) bool { return m.From == a.Me && !slices.Contains(a.Log, m) })
		}
		c, err := court.Merge(a, b)
		if isWrong(a, b) {
			seen["wrong"]++
			if !sameCourt(c, api.Court{}) || err != api.ErrMessage {
				t.Fatal(a, b, c, err)
			}
			continue
		}
		want := a
		for _, i := range x.order(len(b.Log)) {
			want.Log = delivered(want.Log, b.Log[i])
		}
		if !sameCourt(c, want) || err != api.OK || court.Check(c) != api.OK {
			t.Fatal(a, b, c, err)
		}
		if len(c.Log) > max(len(a.Log), len(b.Log)) {
			seen["both"]++
		}
		if !isWrong(b, a) {
			seen["either"]++
			if d, err := court.Merge(b, a); err != api.OK || !slices.Equal(d.Log, c.Log) || d.Me != b.Me || d.Day != b.Day {
				t.Fatal(a, b, c, d, err)
			}
		}
	}
	for _, s := range []string{"wrong", "both", "either"} {
		if seen[s] < 150 {
			t.Error(s, seen[s])
		}
	}
}

// P8.2 and P8.3: Merge and Same of courts that have not the same offices or terms.
func TestOtherCases(t *testing.T) {
	a := example(t, 2, 0, "0 0 3 claim 7 100")
	for _, b := range []api.Court{example(t, 3, 0, "0 0 3 claim 7 100"), example(t, 1, 0, "0 0 3 claim 7 100"), example(t, 3, 1, "0 0 9 keep"), replay(t, 2, 0, api.Terms{Notice: 6, Sampling: 10, Lease: 20}, a.Log), replay(t, 2, 0, api.Terms{Notice: 5, Sampling: 11, Lease: 20}, a.Log), replay(t, 2, 0, api.Terms{Notice: 5, Sampling: 10, Lease: 21}, a.Log)} {
		for _, pair := range [][2]api.Court{{a, b}, {b, a}} {
			if c, err := court.Merge(pair[0], pair[1]); !sameCourt(c, api.Court{}) || err != api.ErrArg {
				t.Error(pair, c, err)
			}
			if is, err := court.Same(pair[0], pair[1]); is || err != api.OK {
				t.Error(pair, is, err)
			}
		}
	}
}

// P8.2 and P8.8: Replay of messages in any order, some of them several times, some with others of their numbers.
func TestReplay(t *testing.T) {
	x := noise(8)
	seen := map[api.Errno]int{}
	for range 2000 {
		w := ways{offices: x.from(1, 4), messages: x.from(0, 25), finds: 3, families: 3, days: 3}
		me, some := x.below(w.offices), someTerms(&x)
		var l, want []api.Message
		for _, m := range someMessages(&x, w) {
			if x.below(30) == 0 {
				continue
			}
			all := []api.Message{m, m}[:x.from(1, 2)]
			if x.below(20) == 0 {
				all = variants(&x, m)
			}
			for _, v := range all {
				l, want = append(l, v), delivered(want, v)
			}
		}
		var mixed []api.Message
		for _, i := range x.order(len(l)) {
			mixed = append(mixed, l[i])
		}
		c, err := court.Replay(w.offices, me, some, mixed)
		day, isRight := 0, true
		for n, m := range filtered(want, func(m api.Message) bool { return m.From == me }) {
			isRight = isRight && m.No == n && m.Day >= day
			day = max(day, m.Day)
		}
		seen[err]++
		if !isRight {
			if !sameCourt(c, api.Court{}) || err != api.ErrCourt {
				t.Fatal(mixed, me, c, err)
			}
			continue
		}
		if !sameCourt(c, api.Court{Offices: w.offices, Me: me, Day: day, Terms: some, Log: want}) || err != api.OK {
			t.Fatal(mixed, me, c, err)
		}
	}
	if seen[api.OK] < 500 || seen[api.ErrCourt] < 300 {
		t.Error(seen)
	}
}

// P8.2: Replay with messages of its own office that make no court, or have none.
func TestReplayOwn(t *testing.T) {
	for _, l := range [][]string{{"0 1 3 keep"}, {"0 0 3 keep", "0 2 3 keep"}, {"0 0 3 keep", "0 1 2 keep"}, {"0 0 5 keep", "0 1 5 keep", "0 2 4 keep", "1 0 9 keep"}} {
		if c, err := court.Replay(2, 0, terms(), parseAll(t, l...)); !sameCourt(c, api.Court{}) || err != api.ErrCourt {
			t.Error(l, c, err)
		}
		// To another office they are messages that are not heard yet.
		if c, err := court.Replay(3, 2, terms(), parseAll(t, l...)); c.Day != 0 || len(c.Log) != len(l) || err != api.OK {
			t.Error(l, c, err)
		}
	}
	if c := example(t, 2, 0, "0 0 9 keep", "0 1 11 keep", "1 0 30 keep", "0 0 7 keep"); c.Day != 11 || c.Log[0].Day != 7 {
		t.Error(c)
	}
	// The day is that of a message that is in the log.
	if c := example(t, 2, 0, "0 0 9 keep", "0 0 7 keep"); c.Day != 7 {
		t.Error(c)
	}
}

// P8.8: messages can be delivered in any order, and each several times; Replay of a log is a court that has heard the same.
func TestAnyOrder(t *testing.T) {
	x := noise(9)
	for _, c := range someCourts(t, 10, 150) {
		var l []api.Message
		for _, m := range c.Log {
			if m.From != c.Me {
				l = append(l, variants(&x, m)[:x.from(1, 3)]...)
			}
		}
		var logs [][]api.Message
		for range 3 {
			d := c
			d.Log = filtered(c.Log, func(m api.Message) bool { return m.From == c.Me })
			for _, i := range append(x.order(len(l)), x.order(len(l))...) {
				var err api.Errno
				if d, err = court.Deliver(d, l[i]); err != api.OK {
					t.Fatal(d, l[i], err)
				}
			}
			if d.Day != c.Day || d.Me != c.Me {
				t.Fatal(c, d)
			}
			logs = append(logs, d.Log)
		}
		if !slices.Equal(logs[0], logs[1]) || !slices.Equal(logs[0], logs[2]) {
			t.Fatal(l, logs)
		}
		d := replay(t, c.Offices, c.Me, c.Terms, c.Log)
		if is, err := court.Same(c, d); !is || err != api.OK || !slices.Equal(d.Log, c.Log) {
			t.Fatal(c, d, is, err)
		}
	}
}
