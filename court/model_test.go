package court_test

import (
	"slices"
	"testing"

	"bonehouse/api"
	"bonehouse/court"
)

// noise is a row of numbers that is the same in each run.
type noise uint64

func (x *noise) next() uint64 {
	*x += 0x9e3779b97f4a7c15
	z := uint64(*x)
	z = (z ^ z>>30) * 0xbf58476d1ce4e5b9
	z = (z ^ z>>27) * 0x94d049bb133111eb
	return z ^ z>>31
}

// below returns a number from 0 to n - 1.
func (x *noise) below(n int) int { return int(x.next() % uint64(n)) }

// from returns a number from lo to hi.
func (x *noise) from(lo, hi int) int { return lo + x.below(hi-lo+1) }

// order returns the numbers from 0 to n - 1 in some order.
func (x *noise) order(n int) []int {
	var l []int
	for i := range n {
		l = slices.Insert(l, x.below(i+1), i)
	}
	return l
}

// terms returns the terms of the chapter's examples.
func terms() api.Terms { return api.Terms{Notice: 5, Sampling: 10, Lease: 20} }

// parse returns the message with a text.
func parse(t testing.TB, s string) api.Message {
	t.Helper()
	m, err := court.Parse(s)
	if err != api.OK {
		t.Fatal(s, err)
	}
	return m
}

// parseAll returns the messages with some texts.
func parseAll(t testing.TB, texts ...string) []api.Message {
	t.Helper()
	var l []api.Message
	for _, s := range texts {
		l = append(l, parse(t, s))
	}
	return l
}

// replay returns the court of an office that has had messages.
func replay(t testing.TB, offices, me int, terms api.Terms, l []api.Message) api.Court {
	t.Helper()
	c, err := court.Replay(offices, me, terms, l)
	if err != api.OK {
		t.Fatal(offices, me, terms, l, err)
	}
	return c
}

// example returns a court with the chapter's terms that has had messages.
func example(t testing.TB, offices, me int, texts ...string) api.Court {
	t.Helper()
	return replay(t, offices, me, terms(), parseAll(t, texts...))
}

// number returns the number of a message.
func number(m api.Message) int { return 64*m.From + m.No }

// isAhead reports whether a is ahead of b.
func isAhead(a, b api.Message) bool {
	k := [9]int{a.Day, a.From, a.No, a.Kind, a.Claim, a.Find, a.Family, a.Grave, a.Value}
	l := [9]int{b.Day, b.From, b.No, b.Kind, b.Claim, b.Find, b.Family, b.Grave, b.Value}
	for i := range k {
		if k[i] != l[i] {
			return k[i] < l[i]
		}
	}
	return false
}

// having returns the index of the message with a number; -1 if there is none.
func having(l []api.Message, no int) int {
	return slices.IndexFunc(l, func(m api.Message) bool { return number(m) == no })
}

// filtered returns the messages of a list that are as asked for.
func filtered(l []api.Message, is func(m api.Message) bool) []api.Message {
	var some []api.Message
	for _, m := range l {
		if is(m) {
			some = append(some, m)
		}
	}
	return some
}

// told is what is known of a court by the chapter's words, one question at a time.
type told struct {
	c      api.Court
	heard  []api.Message
	closed int
	record []api.Message
}

// tell returns what is known of a court.
func tell(c api.Court) told {
	x := told{c: c, closed: api.MaxDay}
	for from := range c.Offices {
		last := -1
		for no := range 64 {
			i := having(c.Log, 64*from+no)
			if i < 0 || c.Log[i].Day < last {
				break
			}
			last = c.Log[i].Day
			x.heard = append(x.heard, c.Log[i])
		}
		x.closed = min(x.closed, max(-1, last-1))
	}
	for _, m := range x.heard {
		if m.Day <= x.closed {
			i := 0
			for i < len(x.record) && isAhead(x.record[i], m) {
				i++
			}
			x.record = slices.Insert(x.record, i, m)
		}
	}
	return x
}

// tally returns how many messages are heard of each office.
func (x told) tally() []int {
	var l []int
	for from := range x.c.Offices {
		l = append(l, len(filtered(x.heard, func(m api.Message) bool { return m.From == from })))
	}
	return l
}

// of returns the messages of a kind of the record.
func (x told) of(kind int) []api.Message {
	return filtered(x.record, func(m api.Message) bool { return m.Kind == kind })
}

// about returns the messages of the record of a kind that are about a claim, up to a day.
func (x told) about(claim api.Message, kind, day int) []api.Message {
	return filtered(x.record, func(m api.Message) bool { return m.Kind == kind && m.Claim == number(claim) && m.Day <= day })
}

// notice returns the last day of objections to a claim.
func (x told) notice(claim api.Message) int { return claim.Day + x.c.Terms.Notice }

// term returns the last day of samples.
func (x told) term(claim api.Message) int { return x.notice(claim) + x.c.Terms.Sampling }

// objections returns the families that object to a claim.
func (x told) objections(claim api.Message) []int {
	var l []int
	for _, m := range x.about(claim, api.ObjectM, x.notice(claim)) {
		if m.Family != claim.Family && !slices.Contains(l, m.Family) {
			l = append(l, m.Family)
		}
	}
	return l
}

// last returns the last day of a claim.
func (x told) last(claim api.Message) int {
	if len(x.objections(claim)) > 0 {
		return x.term(claim)
	}
	return x.notice(claim)
}

// parties returns the families between which a claim is decided. A withdrawal behind the last day is behind the ruling, and P8.6 says that this never changes.
func (x told) parties(claim api.Message) []int {
	var l []int
	for _, family := range append([]int{claim.Family}, x.objections(claim)...) {
		drops := x.about(claim, api.DropM, min(x.term(claim), x.last(claim)))
		if !slices.ContainsFunc(drops, func(m api.Message) bool { return m.Family == family }) {
			l = append(l, family)
		}
	}
	return l
}

// values returns the values of a family's samples.
func (x told) values(claim api.Message, family int) []int {
	var l []int
	for _, m := range x.about(claim, api.SampleM, x.term(claim)) {
		if m.Family == family {
			l = append(l, m.Value)
		}
	}
	return l
}

// winner returns who gets the find of a claim if no ruling ahead gives it to anybody.
func (x told) winner(claim api.Message) int {
	parties := x.parties(claim)
	if len(parties) == 1 {
		return parties[0]
	}
	winner := -1
	for _, family := range parties {
		for _, value := range x.values(claim, family) {
			if winner < 0 || value > slices.Max(x.values(claim, winner)) {
				winner = family
			}
		}
	}
	return winner
}

// rulings returns the rulings.
func (x told) rulings() []api.Ruling {
	var due, l []api.Ruling
	for _, claim := range x.of(api.ClaimM) {
		if day := x.last(claim); day <= x.closed {
			r := api.Ruling{Claim: number(claim), Day: day, Find: claim.Find, Family: x.winner(claim)}
			i := len(due)
			for i > 0 && due[i-1].Day > day {
				i--
			}
			due = slices.Insert(due, i, r)
		}
	}
	for _, r := range due {
		if slices.ContainsFunc(l, func(ahead api.Ruling) bool { return ahead.Find == r.Find && ahead.Family >= 0 }) {
			r.Family = -1
		}
		l = append(l, r)
	}
	return l
}

// rests returns the numbers of the messages that count for a claim.
func (x told) rests(claim api.Message) []int {
	l := []int{number(claim)}
	for _, some := range [][]api.Message{x.about(claim, api.ObjectM, x.notice(claim)), x.about(claim, api.SampleM, x.term(claim)), x.about(claim, api.DropM, x.term(claim))} {
		for _, m := range some {
			l = append(l, number(m))
		}
	}
	slices.Sort(l)
	return l
}

// claims returns the claims.
func (x told) claims() []api.Claim {
	var l []api.Claim
	for _, m := range x.of(api.ClaimM) {
		l = append(l, api.Claim{No: number(m), Day: m.Day, Find: m.Find, Family: m.Family, Families: x.objections(m)})
	}
	return l
}

// holdings is what became of leases, for each place of the record: whether a LeaseM is granted, whether a BuryM is a burial.
type holdings struct {
	told
	granted, burial []bool
}

// holdings goes through the record once; what is asked of a place is told by those ahead of it.
func (x told) holdings() holdings {
	y := holdings{told: x}
	for at, m := range x.record {
		y.granted = append(y.granted, m.Kind == api.LeaseM && y.isGranted(at))
		y.burial = append(y.burial, m.Kind == api.BuryM && y.isBurial(at))
	}
	return y
}

// until returns the last day of the lease at a place.
func (y *holdings) until(at int) int { return y.record[at].Day + y.c.Terms.Lease }

// isBack reports whether the granted lease at a place is given back ahead of another place.
func (y *holdings) isBack(lease, at int) bool {
	return slices.ContainsFunc(y.record[lease:at], func(m api.Message) bool {
		return m.Kind == api.GiveM && m.Claim == number(y.record[lease]) && m.From == y.record[lease].From
	})
}

// isGranted reports whether the LeaseM at a place is granted.
func (y *holdings) isGranted(at int) bool {
	m := y.record[at]
	for k := range at {
		l := y.record[k]
		if y.burial[k] {
			l = y.record[having(y.record, l.Claim)]
		} else if !y.granted[k] || y.until(k) < m.Day || y.isBack(k, at) {
			continue
		}
		if l.Find == m.Find || l.Grave == m.Grave {
			return false
		}
	}
	return true
}

// isBurial reports whether the BuryM at a place is a burial.
func (y *holdings) isBurial(at int) bool {
	m := y.record[at]
	lease := having(y.record[:at], m.Claim)
	if lease < 0 || !y.granted[lease] || y.record[lease].From != m.From || y.isBack(lease, at) || y.until(lease) < m.Day {
		return false
	}
	for k := range at {
		if y.burial[k] && y.record[k].Claim == m.Claim {
			return false
		}
	}
	return true
}

// leases returns the leases.
func (y *holdings) leases() []api.Lease {
	var l []api.Lease
	for at, m := range y.record {
		if m.Kind == api.LeaseM {
			l = append(l, api.Lease{No: number(m), Office: m.From, Day: m.Day, Until: y.until(at), Find: m.Find, Grave: m.Grave, Granted: y.granted[at]})
		}
	}
	return l
}

// burials returns the burials.
func (y *holdings) burials() []api.Burial {
	var l []api.Burial
	for at, m := range y.record {
		if y.burial[at] {
			lease := y.record[having(y.record, m.Claim)]
			l = append(l, api.Burial{Find: lease.Find, Grave: lease.Grave, Lease: m.Claim, Day: m.Day})
		}
	}
	return l
}

// may reports whether the office of the court may bury under a lease.
func (y *holdings) may(no int) bool {
	at := having(y.record, no)
	if at < 0 || !y.granted[at] || y.record[at].From != y.c.Me || y.until(at) < y.c.Day {
		return false
	}
	return !slices.ContainsFunc(y.c.Log, func(m api.Message) bool {
		return m.From == y.c.Me && (m.Kind == api.GiveM || m.Kind == api.BuryM) && m.Claim == no
	})
}

// ways is what random courts are like: how many messages, different finds, graves and families there are, how far apart days are, how often something is missing or wrong, and of which kinds the messages are (0: of any).
type ways struct {
	offices, messages, finds, families, days, wrong int
	kinds                                           [8]int
	isOver                                          bool // whether all offices write once more, much later
}

// claimKinds returns kinds of messages, most of which are about claims.
func claimKinds() [8]int {
	return [8]int{0, api.ClaimM, api.ObjectM, api.ObjectM, api.SampleM, api.SampleM, api.SampleM, api.DropM}
}

// leaseKinds returns kinds of messages, most of which are about leases.
func leaseKinds() [8]int {
	return [8]int{0, api.LeaseM, api.LeaseM, api.LeaseM, api.GiveM, api.BuryM, api.BuryM, api.BuryM}
}

// aMessage returns a valid message of any kind, with the number 0 on day 0, about one of the given numbers, if there are some.
func aMessage(x *noise, w ways, numbers []int) api.Message {
	m := api.Message{Kind: w.kinds[x.below(8)]}
	if m.Kind == 0 {
		m.Kind = x.from(1, 8)
	}
	find, family, about := x.below(w.finds), x.below(w.families), x.below(64*w.offices)
	if len(numbers) > 0 {
		about = numbers[x.below(len(numbers))]
	}
	switch m.Kind {
	case api.ClaimM:
		m.Find, m.Family = find, family
	case api.ObjectM, api.DropM:
		m.Claim, m.Family = about, family
	case api.SampleM:
		m.Claim, m.Family, m.Value = about, family, x.below(4)*x.below(34)
	case api.LeaseM:
		m.Find, m.Grave = find, x.below(w.finds)
	case api.GiveM, api.BuryM:
		m.Claim = about
	}
	return m
}

// someMessages returns messages of all offices, those of each one from No 0 on, on days that never become less; most of them are about claims or leases that some office has written, whatever the days.
func someMessages(x *noise, w ways) []api.Message {
	counts, days := make([]int, w.offices), make([]int, w.offices)
	claims, leases := []int{}, []int{}
	var l []api.Message
	for range w.messages {
		from := x.below(w.offices)
		if counts[from] == 64 {
			continue
		}
		m := aMessage(x, w, nil)
		if m.Kind == api.GiveM || m.Kind == api.BuryM {
			m = about(x, m, leases)
		} else if m.Kind == api.ObjectM || m.Kind == api.SampleM || m.Kind == api.DropM {
			m = about(x, m, claims)
		}
		days[from] += x.below(w.days)
		m.From, m.No, m.Day = from, counts[from], days[from]
		counts[from]++
		if m.Kind == api.ClaimM {
			claims = append(claims, number(m))
		} else if m.Kind == api.LeaseM {
			leases = append(leases, number(m))
		}
		l = append(l, m)
	}
	for from, n := range counts {
		if w.isOver && n < 64 {
			l = append(l, api.Message{From: from, No: n, Day: days[from] + 30, Kind: api.KeepM})
		}
	}
	return l
}

// about returns m with one of some numbers as what it is about, seldom another one.
func about(x *noise, m api.Message, numbers []int) api.Message {
	if len(numbers) > 0 && x.below(8) > 0 {
		m.Claim = numbers[max(0, len(numbers)-1-x.below(4))]
	}
	return m
}

// someTerms returns short terms.
func someTerms(x *noise) api.Terms {
	return api.Terms{Notice: x.from(1, 6), Sampling: x.from(1, 8), Lease: x.from(1, 9)}
}

// aCourt returns a court of which the messages of other offices have gaps, and days that become less, as often as w says.
func aCourt(t testing.TB, x *noise, w ways) api.Court {
	t.Helper()
	me := x.below(w.offices)
	var l []api.Message
	for _, m := range someMessages(x, w) {
		if m.From == me || w.wrong == 0 || x.below(100) >= w.wrong {
			l = append(l, m)
		} else if x.below(2) == 0 && m.Day > 0 {
			m.Day -= x.from(1, min(3, m.Day))
			l = append(l, m)
		}
	}
	c := replay(t, w.offices, me, someTerms(x), l)
	c.Day += x.below(12)
	return c
}

// someCourts returns random courts, large and small.
func someCourts(t testing.TB, seed noise, many int) []api.Court {
	t.Helper()
	var l []api.Court
	for i := range many {
		w := ways{offices: seed.from(1, 4), messages: seed.from(0, 60), finds: seed.from(1, 4), families: seed.from(1, 5), days: seed.from(1, 4), wrong: []int{0, 0, 0, 2, 10}[i%5]}
		if i%100 == 0 {
			w = ways{offices: seed.from(5, 8), messages: 300, finds: 9, families: 5, days: 3}
		}
		w.kinds, w.isOver = [][8]int{{}, claimKinds(), leaseKinds()}[i%3], i%4 < 2
		c := aCourt(t, &seed, w)
		l = append(l, c)
	}
	return l
}

// sameClaim reports whether two claims are equal.
func sameClaim(a, b api.Claim) bool {
	return a.No == b.No && a.Day == b.Day && a.Find == b.Find && a.Family == b.Family && slices.Equal(a.Families, b.Families)
}

// sameCourt reports whether two courts are equal.
func sameCourt(a, b api.Court) bool {
	return a.Offices == b.Offices && a.Me == b.Me && a.Day == b.Day && a.Terms == b.Terms && slices.Equal(a.Log, b.Log)
}

// copied returns a court with a log of its own, with room behind it, which nothing may write into.
func copied(c api.Court) api.Court {
	c.Log = append(make([]api.Message, 0, len(c.Log)+3), c.Log...)
	return c
}

// The results of functions of valid courts.

func heardOf(t testing.TB, c api.Court) []api.Message {
	t.Helper()
	l, err := court.Heard(c)
	isOK(t, c, err)
	return l
}

func closedOf(t testing.TB, c api.Court) int {
	t.Helper()
	n, err := court.Closed(c)
	isOK(t, c, err)
	return n
}

func recordOf(t testing.TB, c api.Court) []api.Message {
	t.Helper()
	l, err := court.Record(c)
	isOK(t, c, err)
	return l
}

func claimsOf(t testing.TB, c api.Court) []api.Claim {
	t.Helper()
	l, err := court.Claims(c)
	isOK(t, c, err)
	return l
}

func rulingsOf(t testing.TB, c api.Court) []api.Ruling {
	t.Helper()
	l, err := court.Rulings(c)
	isOK(t, c, err)
	return l
}

func leasesOf(t testing.TB, c api.Court) []api.Lease {
	t.Helper()
	l, err := court.Leases(c)
	isOK(t, c, err)
	return l
}

func burialsOf(t testing.TB, c api.Court) []api.Burial {
	t.Helper()
	l, err := court.Buried(c)
	isOK(t, c, err)
	return l
}

// isOK fails unless a function of a valid court has returned no error.
func isOK(t testing.TB, c api.Court, err api.Errno) {
	t.Helper()
	if err != api.OK {
		t.Fatal(c, err)
	}
}
