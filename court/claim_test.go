package court_test

import (
	"slices"
	"testing"

	"bonehouse/api"
	"bonehouse/court"
)

// tellsClaims checks what is told of claims by the chapter's words.
func tellsClaims(t testing.TB, c api.Court) told {
	t.Helper()
	x := tell(c)
	if l := claimsOf(t, c); !slices.EqualFunc(l, x.claims(), sameClaim) {
		t.Fatal(c, l)
	}
	l := rulingsOf(t, c)
	if !slices.Equal(l, x.rulings()) {
		t.Fatal(c, l, x.rulings())
	}
	numbers := []int{0, 63, 64*c.Offices - 1, 511}
	for i, m := range x.heard {
		if m.Kind == api.ClaimM || i%16 == 0 {
			numbers = append(numbers, number(m), number(m)+1)
		}
	}
	for _, no := range numbers {
		if no < 512 {
			tellsClaim(t, x, no, slices.ContainsFunc(l, func(r api.Ruling) bool { return r.Claim == no }))
		}
	}
	return x
}

// tellsClaim checks what is told of the claim with a number, if there is one.
func tellsClaim(t testing.TB, x told, no int, isRuled bool) {
	t.Helper()
	state, day, err := court.Status(x.c, no)
	rests, fault := court.Rests(x.c, no)
	i := having(x.record, no)
	if i < 0 || x.record[i].Kind != api.ClaimM {
		if state != 0 || day != 0 || err != api.ErrNone || len(rests) != 0 || fault != api.ErrNone {
			t.Fatal(x.c, no, state, day, err, rests, fault)
		}
		return
	}
	claim := x.record[i]
	wantState, wantDay := 2, x.last(claim)
	if x.notice(claim) > x.closed {
		wantState, wantDay = 1, x.notice(claim)
	} else if isRuled {
		wantState = 3
	}
	if state != wantState || day != wantDay || err != api.OK {
		t.Fatal(x.c, no, state, day, err)
	}
	if !isRuled {
		if len(rests) != 0 || fault != api.ErrNone {
			t.Fatal(x.c, no, rests, fault)
		}
		return
	}
	if !slices.Equal(rests, x.rests(claim)) || fault != api.OK {
		t.Fatal(x.c, no, rests, fault)
	}
}

// P8.4: claims, how they stand, rulings and what these rest on, of random courts.
func TestClaims(t *testing.T) {
	seen := map[string]int{}
	for _, c := range someCourts(t, 18, 2500) {
		x := tellsClaims(t, c)
		rulings := x.rulings()
		for i, r := range rulings {
			claim := x.record[having(x.record, r.Claim)]
			isGiven := slices.ContainsFunc(rulings[:i], func(q api.Ruling) bool { return q.Find == r.Find && q.Family >= 0 })
			switch parties := x.parties(claim); {
			case isGiven:
				seen["given to another one"]++
			case len(parties) == 0:
				seen["no parties"]++
			case len(parties) == 1 && parties[0] == claim.Family:
				seen["the claim alone"]++
			case len(parties) == 1:
				seen["an objection alone"]++
			case r.Family < 0:
				seen["no samples"]++
			case r.Family == parties[0]:
				seen["the first one"]++
			default:
				seen["another one"]++
			}
			if i > 0 && having(x.record, rulings[i-1].Claim) > having(x.record, r.Claim) {
				seen["a later claim ahead"]++
			}
			if i > 0 && rulings[i-1].Day == r.Day {
				seen["one day"]++
			}
		}
		for _, claim := range x.of(api.ClaimM) {
			state, _, _ := court.Status(c, number(claim))
			seen["status "+[]string{"", "1", "2", "3"}[state]]++
		}
	}
	for _, s := range []string{"given to another one", "no parties", "the claim alone", "an objection alone", "no samples", "the first one", "another one", "a later claim ahead", "one day", "status 1", "status 2", "status 3"} {
		if seen[s] < 50 {
			t.Error(s, seen[s])
		}
	}
}

// fewDeeds returns what an office can write about a claim of the find 0 by the family 0.
func fewDeeds() []api.Message {
	return []api.Message{
		{Kind: api.ClaimM, Family: 1}, {Kind: api.ObjectM}, {Kind: api.ObjectM, Family: 1}, {Kind: api.ObjectM, Family: 2},
		{Kind: api.SampleM}, {Kind: api.SampleM, Family: 1}, {Kind: api.SampleM, Family: 1, Value: 1}, {Kind: api.DropM}, {Kind: api.DropM, Family: 1}, {Kind: api.DropM, Family: 2},
	}
}

// P8.4: all lists of a claim, of up to three messages about it, and of one that closes some days.
func TestAllShortRecords(t *testing.T) {
	short := api.Terms{Notice: 1, Sampling: 1, Lease: 1}
	deeds := fewDeeds()
	n := 0
	var further func(l []api.Message)
	further = func(l []api.Message) {
		last := l[len(l)-1]
		for _, days := range []int{1, 4} {
			end := api.Message{No: len(l), Day: last.Day + days, Kind: api.KeepM}
			c := api.Court{Offices: 1, Day: end.Day, Terms: short, Log: append(slices.Clone(l), end)}
			x := tell(c)
			if got := rulingsOf(t, c); !slices.Equal(got, x.rulings()) {
				t.Fatal(c, got, x.rulings())
			}
			n++
		}
		if len(l) == 4 {
			return
		}
		for _, m := range deeds {
			for days := range 3 {
				m.No, m.Day = len(l), last.Day+days
				further(append(slices.Clone(l), m))
			}
		}
	}
	further([]api.Message{{Kind: api.ClaimM}})
	if n != 2*(1+30+900+27000) {
		t.Error(n)
	}
}

// ruled returns the family that gets the find of the claim 0, in a court of two offices with the chapter's terms: this is claim 0 of the find 7 by the family 100 on day 3. Behind what is given nothing comes.
func ruled(t testing.TB, texts ...string) (api.Ruling, []int) {
	t.Helper()
	l := parseAll(t, append([]string{"0 0 3 claim 7 100"}, texts...)...)
	counts := []int{0, 0}
	for _, m := range l {
		counts[m.From] = max(counts[m.From], m.No+1)
	}
	for from, n := range counts {
		l = append(l, api.Message{From: from, No: n, Day: 1000, Kind: api.KeepM})
	}
	c := replay(t, 2, 0, terms(), l)
	tellsClaims(t, c)
	rulings := rulingsOf(t, c)
	i := slices.IndexFunc(rulings, func(r api.Ruling) bool { return r.Claim == 0 })
	rests, err := court.Rests(c, 0)
	isOK(t, c, err)
	return rulings[i], rests
}

// P8.4 and P8.10: to the day, what counts for a claim.
func TestDeadlines(t *testing.T) {
	for i, x := range []struct {
		texts       []string
		day, family int
		rests       []int
	}{
		{nil, 8, 100, []int{0}},
		// Objections count up to day 8.
		{[]string{"1 0 8 object 0 200", "1 1 18 sample 0 200 0"}, 18, 200, []int{0, 64, 65}},
		{[]string{"1 0 9 object 0 200", "1 1 18 sample 0 200 9"}, 8, 100, []int{0, 65}},
		{[]string{"1 0 0 object 0 200", "1 1 0 sample 0 200 9"}, 18, 200, []int{0, 64, 65}},
		// Those of the claim's own family do not, but it rests on them as well.
		{[]string{"1 0 8 object 0 100"}, 8, 100, []int{0, 64}},
		{[]string{"1 0 8 object 0 100", "1 1 8 object 0 200", "1 2 8 object 0 200", "1 3 9 object 0 300"}, 18, -1, []int{0, 64, 65, 66}},
		// Samples count up to day 18.
		{[]string{"1 0 8 object 0 200", "1 1 18 sample 0 200 1", "0 1 18 sample 0 100 2"}, 18, 100, []int{0, 1, 64, 65}},
		{[]string{"1 0 8 object 0 200", "1 1 18 sample 0 200 1", "0 1 19 sample 0 100 2"}, 18, 200, []int{0, 64, 65}},
		{[]string{"1 0 8 object 0 200", "1 1 19 sample 0 200 1", "0 1 19 sample 0 100 2"}, 18, -1, []int{0, 64}},
		// The better sample counts, whichever is the first one; of equal ones that of the claim's family, then the first objection.
		{[]string{"1 0 8 object 0 200", "1 1 9 sample 0 200 50", "1 2 10 sample 0 200 7", "0 1 9 sample 0 100 49"}, 18, 200, []int{0, 1, 64, 65, 66}},
		{[]string{"1 0 8 object 0 200", "1 1 9 sample 0 200 7", "1 2 10 sample 0 200 50", "0 1 9 sample 0 100 49"}, 18, 200, []int{0, 1, 64, 65, 66}},
		{[]string{"1 0 8 object 0 200", "1 1 9 sample 0 200 50", "0 1 18 sample 0 100 50"}, 18, 100, []int{0, 1, 64, 65}},
		{[]string{"1 0 8 object 0 90", "0 1 7 object 0 200", "1 1 9 sample 0 200 0", "1 2 9 sample 0 90 0"}, 18, 200, []int{0, 1, 64, 65, 66}},
		{[]string{"1 0 7 object 0 90", "0 1 7 object 0 200", "1 1 9 sample 0 200 0", "1 2 9 sample 0 90 0"}, 18, 200, []int{0, 1, 64, 65, 66}},
		{[]string{"1 0 6 object 0 90", "0 1 7 object 0 200", "1 1 9 sample 0 200 0", "1 2 9 sample 0 90 0"}, 18, 90, []int{0, 1, 64, 65, 66}},
		// Samples of a family that is no party count for nobody.
		{[]string{"1 0 8 object 0 200", "1 1 9 sample 0 300 50", "1 2 9 sample 0 200 0"}, 18, 200, []int{0, 64, 65, 66}},
		// Withdrawals count up to day 18, also of who objects later, or again.
		{[]string{"1 0 8 object 0 200", "1 1 18 drop 0 200"}, 18, 100, []int{0, 64, 65}},
		{[]string{"1 0 8 object 0 200", "1 1 19 drop 0 200"}, 18, -1, []int{0, 64}},
		{[]string{"1 0 2 drop 0 200", "1 1 8 object 0 200"}, 18, 100, []int{0, 64, 65}},
		{[]string{"1 0 4 object 0 200", "1 1 5 drop 0 200", "1 2 8 object 0 200"}, 18, 100, []int{0, 64, 65, 66}},
		{[]string{"1 0 8 object 0 200", "1 1 18 drop 0 100"}, 18, 200, []int{0, 64, 65}},
		{[]string{"1 0 8 object 0 200", "1 1 18 drop 0 100", "1 2 18 drop 0 200", "1 3 18 drop 0 200"}, 18, -1, []int{0, 64, 65, 66, 67}},
		{[]string{"1 0 8 object 0 200", "1 1 9 sample 0 200 60", "1 2 10 drop 0 200", "1 3 10 object 0 300", "0 1 8 object 0 400", "0 2 8 sample 0 400 1"}, 18, 400, []int{0, 1, 2, 64, 65, 66}},
		{[]string{"1 0 8 drop 0 100"}, 8, -1, []int{0, 64}},
		{[]string{"1 0 8 drop 0 200"}, 8, 100, []int{0, 64}},
		// Nobody objects, so the ruling is given on day 8: what is withdrawn later is too late.
		{[]string{"1 0 9 drop 0 100"}, 8, 100, []int{0, 64}},
		{[]string{"1 0 18 drop 0 100", "1 1 18 sample 0 100 3"}, 8, 100, []int{0, 64, 65}},
		{[]string{"1 0 19 drop 0 100"}, 8, 100, []int{0}},
		// What is about something else.
		{[]string{"1 0 5 claim 8 300", "1 1 5 object 64 400", "1 2 5 drop 64 100", "1 3 5 object 1 400", "1 4 5 drop 511 100", "0 1 5 keep"}, 8, 100, []int{0}},
	} {
		r, rests := ruled(t, x.texts...)
		if r != (api.Ruling{Day: x.day, Find: 7, Family: x.family}) || !slices.Equal(rests, x.rests) {
			t.Error(i, x, r, rests)
		}
	}
}

// P8.4: of several claims of one find the first ruling counts that gives it to a family.
func TestClaimsOfOneFind(t *testing.T) {
	for i, x := range []struct {
		texts []string
		want  []api.Ruling
	}{
		{[]string{"0 0 3 claim 7 100", "0 1 3 claim 7 200"}, []api.Ruling{{Claim: 0, Day: 8, Find: 7, Family: 100}, {Claim: 1, Day: 8, Find: 7, Family: -1}}},
		{[]string{"0 0 3 claim 7 100", "0 1 3 claim 8 200"}, []api.Ruling{{Claim: 0, Day: 8, Find: 7, Family: 100}, {Claim: 1, Day: 8, Find: 8, Family: 200}}},
		{[]string{"0 0 3 claim 7 100", "0 1 3 claim 7 100"}, []api.Ruling{{Claim: 0, Day: 8, Find: 7, Family: 100}, {Claim: 1, Day: 8, Find: 7, Family: -1}}},
		{[]string{"0 0 3 claim 7 100", "0 1 3 drop 0 100", "0 2 3 claim 7 200", "0 3 3 claim 7 300"}, []api.Ruling{{Claim: 0, Day: 8, Find: 7, Family: -1}, {Claim: 2, Day: 8, Find: 7, Family: 200}, {Claim: 3, Day: 8, Find: 7, Family: -1}}},
		{[]string{"0 0 3 claim 7 100", "0 1 4 object 0 200", "0 2 4 sample 0 200 1", "0 3 13 claim 7 300", "0 4 14 claim 7 400"}, []api.Ruling{{Claim: 0, Day: 18, Find: 7, Family: 200}, {Claim: 3, Day: 18, Find: 7, Family: -1}, {Claim: 4, Day: 19, Find: 7, Family: -1}}},
		{[]string{"0 0 3 claim 7 100", "0 1 4 object 0 200", "0 2 4 sample 0 200 1", "0 3 12 claim 7 300"}, []api.Ruling{{Claim: 3, Day: 17, Find: 7, Family: 300}, {Claim: 0, Day: 18, Find: 7, Family: -1}}},
		{[]string{"0 0 3 claim 0 0", "0 1 4 claim 0 0"}, []api.Ruling{{Claim: 0, Day: 8, Find: 0, Family: 0}, {Claim: 1, Day: 9, Find: 0, Family: -1}}},
	} {
		c := example(t, 1, 0, append(x.texts, "0 6 999 keep", "0 5 99 keep", "0 4 99 keep", "0 3 99 keep", "0 2 99 keep")...)
		tellsClaims(t, c)
		if l := rulingsOf(t, c); !slices.Equal(l, x.want) {
			t.Error(i, l)
		}
	}
}

// P8.4: the chapter's example.
func TestExample(t *testing.T) {
	l := []string{"0 0 3 claim 7 100", "1 0 6 object 0 200", "1 1 8 sample 0 200 60", "0 1 12 sample 0 100 55"}
	for i, x := range []struct {
		more                       []string
		closed, record, state, day int
		rests                      []int
	}{
		{nil, 7, 2, 1, 8, nil},
		{[]string{"1 2 30 keep"}, 11, 3, 2, 18, nil},
		{[]string{"1 2 30 keep", "0 2 25 keep"}, 24, 4, 3, 18, []int{0, 1, 64, 65}},
		{[]string{"1 2 30 keep", "0 2 25 keep", "1 3 29 keep"}, 24, 4, 3, 18, []int{0, 1, 64, 65}},
		{[]string{"1 3 29 keep"}, 7, 2, 1, 8, nil},
	} {
		c := example(t, 2, 0, append(l, x.more...)...)
		tellsClaims(t, c)
		state, day, err := court.Status(c, 0)
		if closedOf(t, c) != x.closed || len(recordOf(t, c)) != x.record || state != x.state || day != x.day || err != api.OK {
			t.Error(i, closedOf(t, c), recordOf(t, c), state, day, err)
		}
		rests, err := court.Rests(c, 0)
		if rulings := rulingsOf(t, c); x.rests == nil && (len(rulings) != 0 || len(rests) != 0 || err != api.ErrNone) || x.rests != nil && (!slices.Equal(rulings, []api.Ruling{{Claim: 0, Day: 18, Find: 7, Family: 200}}) || !slices.Equal(rests, x.rests) || err != api.OK) {
			t.Error(i, rulings, rests, err)
		}
	}
}

// claimed is all that is told of claims.
type claimed struct {
	claims  []api.Claim
	rulings []api.Ruling
	numbers []int // of each claim: what it waits for, the day, and on how many messages it rests, and these
}

// claimedIn returns all that is told of the claims of a court.
func claimedIn(t testing.TB, c api.Court) claimed {
	t.Helper()
	x := claimed{claims: claimsOf(t, c), rulings: rulingsOf(t, c)}
	for _, claim := range x.claims {
		state, day, err := court.Status(c, claim.No)
		rests, fault := court.Rests(c, claim.No)
		x.numbers = append(x.numbers, state, day, int(err), int(fault), len(rests))
		x.numbers = append(x.numbers, rests...)
	}
	return x
}

// P8.10: an objection behind the notice, and a sample or a withdrawal behind the samples' term, change nothing about the claims.
func TestTooLate(t *testing.T) {
	seen := map[int]int{}
	late := noise(21)
	for _, c := range someCourts(t, 19, 900) {
		x := tell(c)
		for i, m := range c.Log {
			if late.below(4) > 0 {
				continue
			}
			k := having(x.record, m.Claim)
			if k < 0 || x.record[k].Kind != api.ClaimM {
				continue
			}
			isLate := m.Kind == api.ObjectM && m.Day > x.notice(x.record[k]) || (m.Kind == api.SampleM || m.Kind == api.DropM) && m.Day > x.term(x.record[k])
			if !isLate || having(x.record, number(m)) < 0 {
				continue
			}
			seen[m.Kind]++
			d := copied(c)
			d.Log[i] = api.Message{From: m.From, No: m.No, Day: m.Day, Kind: api.KeepM}
			a, b := claimedIn(t, c), claimedIn(t, d)
			if !slices.EqualFunc(a.claims, b.claims, sameClaim) || !slices.Equal(a.rulings, b.rulings) || !slices.Equal(a.numbers, b.numbers) {
				t.Fatal(c, m, a, b)
			}
		}
	}
	for _, kind := range []int{api.ObjectM, api.SampleM, api.DropM} {
		if seen[kind] < 50 {
			t.Error(kind, seen[kind])
		}
	}
}

// P8.12: a ruling is that of a court with the same Closed that has, beside messages that say nothing, only those that Rests names for the claims of the same find.
func TestGrounds(t *testing.T) {
	seen := map[string]int{}
	for _, c := range someCourts(t, 20, 1200) {
		rulings := rulingsOf(t, c)
		for _, r := range rulings {
			var grounds []int
			for _, q := range rulings {
				if q.Find == r.Find {
					l, err := court.Rests(c, q.Claim)
					isOK(t, c, err)
					grounds = append(grounds, l...)
				}
			}
			d := c
			d.Log = heardOf(t, c)
			for i, m := range d.Log {
				if !slices.Contains(grounds, number(m)) {
					d.Log[i] = api.Message{From: m.From, No: m.No, Day: m.Day, Kind: api.KeepM}
					if m.Kind != api.KeepM && m.Day <= closedOf(t, c) {
						seen["left out"]++
					}
				}
			}
			if closedOf(t, d) != closedOf(t, c) || !slices.Contains(rulingsOf(t, d), r) {
				t.Fatal(c, d, r, rulingsOf(t, d))
			}
			seen["ruling"]++
		}
	}
	if seen["left out"] < 5000 || seen["ruling"] < 1000 {
		t.Error(seen)
	}
}
