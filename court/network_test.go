package court_test

import (
	"slices"
	"testing"

	"bonehouse/api"
	"bonehouse/court"
)

// network is offices that write to each other; what one has said can reach another one late, several times, or never.
type network struct {
	t      *testing.T
	x      noise
	w      ways
	courts []api.Court
	said   []api.Message

	// The longest that any court has told so far.
	record  []api.Message
	rulings []api.Ruling
	leases  []api.Lease
	burials []api.Burial
}

// newNetwork returns offices that have not said anything.
func newNetwork(t *testing.T, seed noise) *network {
	t.Helper()
	y := &network{t: t, x: seed}
	y.w = ways{offices: y.x.from(1, 4), finds: y.x.from(1, 6), families: y.x.from(1, 4)}
	y.w.kinds = [][8]int{{}, claimKinds(), leaseKinds()}[y.x.below(3)]
	some := someTerms(&y.x)
	some.Lease *= y.x.from(1, 6)
	for me := range y.w.offices {
		c, err := court.New(y.w.offices, me, some)
		isOK(t, c, err)
		y.courts = append(y.courts, c)
	}
	return y
}

// numbers returns the numbers of claims or leases that an office has heard of, the last ones.
func (y *network) numbers(c api.Court, kind int) []int {
	want := api.ClaimM
	if kind == api.GiveM || kind == api.BuryM {
		want = api.LeaseM
	}
	var l []int
	for _, m := range heardOf(y.t, c) {
		if m.Kind == want {
			l = append(l, number(m))
		}
	}
	return l[max(0, len(l)-6):]
}

// say has an office say something; nothing if it cannot.
func (y *network) say(p int) {
	m := aMessage(&y.x, y.w, nil)
	if l := y.numbers(y.courts[p], m.Kind); len(l) > 0 && m.Kind != api.KeepM && m.Kind != api.ClaimM && m.Kind != api.LeaseM {
		m.Claim = l[y.x.below(len(l))]
	}
	c, m, err := court.Say(y.courts[p], m)
	if err == api.OK {
		y.courts[p] = c
		y.said = append(y.said, m)
	}
}

// deliver brings an office a message.
func (y *network) deliver(p int, m api.Message) {
	c, err := court.Deliver(y.courts[p], m)
	isOK(y.t, y.courts[p], err)
	y.courts[p] = c
}

// catchUp brings an office what another one has heard and it has not, in any order; some of it is lost.
func (y *network) catchUp(p, q int) {
	have, err := court.Tally(y.courts[p])
	isOK(y.t, y.courts[p], err)
	l, err := court.Wanted(y.courts[q], have)
	isOK(y.t, y.courts[q], err)
	for _, i := range y.x.order(len(l)) {
		if y.x.below(8) > 0 {
			y.deliver(p, l[i])
		}
	}
}

// step has something happen to an office.
func (y *network) step(p int) {
	q := y.x.below(len(y.courts))
	var err api.Errno
	switch y.x.below(12) {
	case 0, 1:
		y.courts[p], err = court.Tick(y.courts[p], y.x.from(1, 3))
	case 2, 3, 4, 5:
		y.say(p)
	case 6, 7, 8:
		if len(y.said) > 0 {
			y.deliver(p, y.said[len(y.said)-1-y.x.below(min(len(y.said), 12))])
		}
	case 9:
		y.catchUp(p, q)
	case 10:
		y.courts[p], err = court.Merge(y.courts[p], y.courts[q])
	case 11: // what it knows comes from its log again; its day may be behind then
		if c := y.courts[p]; y.x.below(8) == 0 {
			y.courts[p], err = court.Replay(c.Offices, c.Me, c.Terms, c.Log)
		}
	}
	isOK(y.t, y.courts[p], err)
}

// longer fails unless one of two lists is the beginning of the other one, which it returns.
func longer[E comparable](t *testing.T, a, b []E) []E {
	t.Helper()
	n := min(len(a), len(b))
	if !slices.Equal(a[:n], b[:n]) {
		t.Fatal(a, b)
	}
	if len(a) > len(b) {
		return a
	}
	return b
}

// check compares what a court tells with the longest that any court has told so far.
func (y *network) check(c api.Court) {
	record, burials := recordOf(y.t, c), burialsOf(y.t, c)
	y.record = longer(y.t, y.record, record)
	y.rulings = longer(y.t, y.rulings, rulingsOf(y.t, c))
	y.leases = longer(y.t, y.leases, leasesOf(y.t, c))
	y.burials = longer(y.t, y.burials, burials)
	// All that was said to be buried is a burial.
	buries := filtered(record, func(m api.Message) bool { return m.Kind == api.BuryM })
	if !slices.EqualFunc(buries, burials, func(m api.Message, b api.Burial) bool { return m.Claim == b.Lease && m.Day == b.Day }) {
		y.t.Fatal(c, buries, burials)
	}
	neverTwice(y.t, burials)
}

// P8.6 and P8.7: whatever is lost, doubled or delayed, of what any two courts tell, at any times, one is the beginning of the other one; what an office has said to bury is a burial.
func TestOnceAndForAll(t *testing.T) {
	seen := map[string]int{}
	for seed := range 250 {
		y := newNetwork(t, noise(1000+seed))
		for range 240 {
			p := y.x.below(len(y.courts))
			y.step(p)
			y.check(y.courts[p])
		}
		seen["rulings"] += len(y.rulings)
		seen["leases"] += len(y.leases)
		seen["burials"] += len(y.burials)
		seen["record"] += len(y.record)
		seen["withdrawn behind the ruling"] += y.lateDrops()
	}
	for s, n := range map[string]int{"rulings": 600, "leases": 600, "burials": 60, "record": 6000, "withdrawn behind the ruling": 30} {
		if seen[s] < n {
			t.Error(s, seen[s])
		}
	}
}

// lateDrops returns how often a family withdraws behind a ruling that gives it the find, but ahead of the end of the samples' term.
func (y *network) lateDrops() int {
	n := 0
	for _, m := range y.said {
		for _, r := range y.rulings {
			if m.Kind == api.DropM && m.Claim == r.Claim && m.Family == r.Family && m.Day > r.Day {
				n++
			}
		}
	}
	return n
}

// P8.10: a further message that is heard on a day behind Closed changes nothing that was told.
func TestFurtherMessages(t *testing.T) {
	x := noise(40)
	seen := map[string]int{}
	for _, c := range someCourts(t, 41, 1200) {
		y := tell(c)
		var numbers []int
		for _, m := range y.record {
			if m.Kind == api.ClaimM || m.Kind == api.LeaseM {
				numbers = append(numbers, number(m))
			}
		}
		d := c
		for range 12 {
			m := aMessage(&x, ways{offices: c.Offices, finds: 4, families: 5, kinds: [][8]int{{}, claimKinds(), leaseKinds()}[x.below(3)]}, numbers)
			z := tell(d)
			m.From = x.below(c.Offices)
			m.No = z.tally()[m.From]
			if m.No == 64 {
				continue
			}
			if m.From == c.Me {
				m.Day = d.Day
			} else {
				m.Day = max(y.closed+1, 0) + x.below(4)*x.below(12)
				for _, heard := range z.heard {
					if heard.From == m.From {
						m.Day = max(m.Day, heard.Day)
					}
				}
			}
			d.Log = delivered(filtered(d.Log, func(v api.Message) bool { return number(v) != number(m) }), m)
			if m.From != c.Me && m.Kind == api.DropM {
				seen["drop"]++
			}
		}
		rulings, leases, burials := rulingsOf(t, c), leasesOf(t, c), burialsOf(t, c)
		if len(longer(t, rulings, rulingsOf(t, d))) > len(rulings) {
			seen["more rulings"]++
		}
		if len(longer(t, leases, leasesOf(t, d))) > len(leases) {
			seen["more leases"]++
		}
		if len(longer(t, burials, burialsOf(t, d))) > len(burials) {
			seen["more burials"]++
		}
		if len(longer(t, recordOf(t, c), recordOf(t, d))) > len(y.record) && len(rulings) > 0 {
			seen["more record behind rulings"]++
		}
	}
	for s, n := range map[string]int{"drop": 400, "more rulings": 60, "more leases": 60, "more burials": 15, "more record behind rulings": 60} {
		if seen[s] < n {
			t.Error(s, seen[s])
		}
	}
}

// P8.11: if all offices have heard everything, and each says on a day behind the last day of a claim that it is there, a court that hears this has a ruling.
func TestItGoesOn(t *testing.T) {
	n := 0
	for seed := range 250 {
		y := newNetwork(t, noise(5000+seed))
		for range 100 {
			y.step(y.x.below(len(y.courts)))
		}
		claims := filtered(y.said, func(m api.Message) bool { return m.Kind == api.ClaimM })
		if len(claims) == 0 {
			continue
		}
		claim := claims[y.x.below(len(claims))]
		for p := range y.courts {
			for _, i := range y.x.order(len(y.said)) {
				y.deliver(p, y.said[i])
			}
		}
		last := told{c: y.courts[0], record: y.said}.last(claim)
		var keeps []api.Message
		isFull := false
		for p, c := range y.courts {
			if len(filtered(c.Log, func(m api.Message) bool { return m.From == p })) == 64 {
				isFull = true
				continue
			}
			if c.Day <= last {
				var err api.Errno
				c, err = court.Tick(c, last+1-c.Day+y.x.below(2)*y.x.below(9))
				isOK(t, c, err)
			}
			c, m, err := court.Say(c, api.Message{Kind: api.KeepM})
			isOK(t, c, err)
			y.courts[p] = c
			keeps = append(keeps, m)
		}
		if isFull {
			continue
		}
		p := y.x.below(len(y.courts))
		for _, i := range y.x.order(len(keeps)) {
			y.deliver(p, keeps[i])
		}
		isRuled := func(r api.Ruling) bool { return r.Claim == number(claim) && r.Day == last }
		if l := rulingsOf(t, y.courts[p]); !slices.ContainsFunc(l, isRuled) {
			t.Fatal(y.courts[p], claim, l)
		}
		n++
	}
	if n < 120 {
		t.Error(n)
	}
}
