package vault_test

import (
	"fmt"
	"slices"
	"strings"
	"testing"

	"bonehouse/api"
	"bonehouse/court"
	"bonehouse/finds"
	"bonehouse/ties"
	"bonehouse/vault"
)

// openAll opens all books that are not open.
func openAll(t *testing.T, y *vault.Model, x *noise) {
	t.Helper()
	for p := range y.Offices() {
		if _, err := y.Tally(p); err == api.ErrNotNow {
			do(t, y, fmt.Sprintf("open %d %s", p, one(x, "0", "9", "99", "81", "08")))
		} else {
			do(t, y, fmt.Sprintf("crash %d 1000", p))
		}
	}
}

// questions returns all questions about an office.
func questions(p int) []string {
	var l []string
	for _, word := range []string{"refused", "finds", "strength", "least", "repeat", "claims", "rulings", "buried"} {
		l = append(l, fmt.Sprint(word, " ", p))
	}
	for find := range 6 {
		l = append(l, fmt.Sprintf("relate %d %d %d 0", p, find+1, find+2), fmt.Sprintf("relate %d %d %d 2", p, find+1, find+3), fmt.Sprintf("plan %d %d %d 2 1/2/3 2/3/1 4/5/2", p, find+1, find+2))
	}
	return l
}

// told returns what an office tells.
func told(y *vault.Model, p int) []string {
	var l []string
	for _, line := range questions(p) {
		out, err := y.Do(line)
		l = append(l, fmt.Sprint(int(err), " ", out))
	}
	return l
}

// P10.7 and P0.7: after sendall all offices have the same entries, agree, and tell the same, whatever happened before; those that do not agree have different entries.
func TestAgreement(t *testing.T) {
	t.Parallel()
	x := noise(301)
	agreed := map[string]int{}
	campaigns(302, 80, 100, func(l []string) {
		y := vault.New()
		for _, line := range l {
			y.Do(line)
		}
		openAll(t, y, &x)
		for p := range y.Offices() {
			for q := range y.Offices() {
				a, _ := y.Tally(p)
				b, _ := y.Tally(q)
				out := do(t, y, fmt.Sprintf("agree %d %d", p, q))
				if (out == "yes") != alike(a, b) {
					t.Fatal(p, q, out, a, b)
				}
				agreed[out]++
			}
		}
		do(t, y, "sendall")
		prints(t, y, "sendall", "0")
		want := told(y, 0)
		tally, _ := y.Tally(0)
		for p := range y.Offices() {
			other, err := y.Tally(p)
			if !alike(tally, other) || err != api.OK || !slices.Equal(told(y, p), want) {
				t.Fatal(p, tally, other, err, told(y, p), want)
			}
			prints(t, y, fmt.Sprint("agree 0 ", p), "yes")
			prints(t, y, fmt.Sprint("agree ", p, " 0"), "yes")
		}
	})
	if min(agreed["yes"], agreed["no"]) < 50 {
		t.Error(agreed)
	}
}

// P10.7 and P0.7: the same entries, sent in other orders, lost, doubled, and through outages, come to the same.
func TestAnyOrder(t *testing.T) {
	t.Parallel()
	x := noise(303)
	for range 60 {
		offices := x.from(2, 4)
		begin := fmt.Sprintf("begin %d 3 3 9", offices)
		first, second := vault.New(), vault.New()
		do(t, first, begin)
		do(t, second, begin)
		for range 40 {
			p, q := x.below(offices), x.below(offices)
			if x.below(5) == 0 {
				day := fmt.Sprint("day ", x.from(1, 3))
				do(t, first, day)
				do(t, second, day)
				continue
			}
			line := fmt.Sprintf("write %d %s", p, one(&x, anEvent(&x), anEvent(&x), same12, fmt.Sprintf("tie %d 1 2 apart 5 5", x.from(2048, 2050)), fmt.Sprint("untie ", x.from(2048, 2050)), "claim 1 2", "lease 1 3", "keep"))
			if do(t, first, line) != do(t, second, line) {
				t.Fatal(line)
			}
			// Only the second one is sent something on the way, and has outages.
			if p != q {
				do(t, second, one(&x, fmt.Sprintf("talk %d %d", p, q), fmt.Sprintf("send %d %d %s", p, q, one(&x, "1", "2", "31", "0111", "10")), fmt.Sprint("open ", q, " 5"), fmt.Sprint("compact ", p)))
			}
		}
		do(t, first, "sendall")
		do(t, second, "sendall")
		for p := range offices {
			if !alike(answers(first, p), answers(second, p)) || !slices.Equal(told(first, p), told(second, p)) {
				t.Fatal(first.Transcript(), second.Transcript())
			}
		}
	}
}

// P10.8 and P0.7: what was written with OK stays in the book of its office, behind crashes and compacts too. Each claim is of another family, so that one finds it again.
func TestNothingIsLost(t *testing.T) {
	x := noise(304)
	downs := 0
	for range 150 {
		offices := x.from(1, 3)
		y := vault.New()
		do(t, y, fmt.Sprintf("begin %d 3 3 9", offices))
		kept := make([]map[string]int, offices) // by office: for what was written the family
		for p := range kept {
			kept[p] = map[string]int{}
		}
		for family := range 60 {
			p, q := x.below(offices), x.below(offices)
			switch x.below(8) {
			case 0:
				y.Do(fmt.Sprintf("crash %d %d", p, x.from(1, 6)))
			case 1:
				y.Do(fmt.Sprintf("compact %d", p))
			case 2:
				do(t, y, fmt.Sprintf("open %d %s", p, one(&x, "0", "9", "1", "98", "89", "0807", "99999")))
			case 3:
				y.Do(fmt.Sprintf("send %d %d 1", p, q))
			default:
				at, err := y.Do(fmt.Sprintf("write %d claim 1 %d", p, family))
				if err == api.OK {
					kept[p][at] = family
				} else if err == api.ErrDown {
					downs++
				}
			}
			for p := range offices {
				holdKept(t, y, p, kept[p])
			}
		}
	}
	if downs < 100 {
		t.Error(downs)
	}
}

// holdKept fails if an office with an open book does not have what was written with OK.
func holdKept(t *testing.T, y *vault.Model, p int, kept map[string]int) {
	t.Helper()
	c, err := y.Court(p)
	if err == api.ErrNotNow {
		return
	}
	n := 0
	for _, m := range c.Log {
		if family, is := kept[fmt.Sprintf("%d.%d", m.From, m.No)]; is && m.From == p && m.Family == family && m.Kind == api.ClaimM {
			n++
		}
	}
	if n != len(kept) {
		t.Fatal(p, c.Log, kept)
	}
}

// aLease returns the number of a lease, if there is one a granted one of the office p.
func aLease(x *noise, y *vault.Model, p int) int {
	c, _ := y.Court(p)
	l, _ := court.Leases(c)
	l = slices.DeleteFunc(l, func(lease api.Lease) bool { return lease.Office != p || !lease.Granted })
	if len(l) == 0 {
		return x.below(512)
	}
	return l[x.below(len(l))].No
}

// aCourtForm returns the form of a message of the court, for the office p.
func aCourtForm(x *noise, y *vault.Model, p int) string {
	about := 64*x.below(y.Offices()) + x.below(12)
	find, family := x.from(1, 3), 100*x.from(1, 3)
	switch x.below(12) {
	case 0, 1:
		return fmt.Sprintf("claim %d %d", find, family)
	case 2:
		return fmt.Sprintf("object %d %d", about, family)
	case 3:
		return fmt.Sprintf("sample %d %d %d", about, family, x.from(1, 4))
	case 4:
		return fmt.Sprintf("drop %d %d", about, family)
	case 5, 6:
		return fmt.Sprintf("lease %d %d", find, x.below(3))
	case 7:
		return fmt.Sprintf("give %d", aLease(x, y, p))
	case 8, 9:
		return fmt.Sprintf("bury %d", aLease(x, y, p))
	}
	return "keep"
}

// isPrefix reports whether one of two lists is the beginning of the other one.
func isPrefix(a, b string) bool { return strings.HasPrefix(a, b) || strings.HasPrefix(b, a) }

// linesOf returns lines, each with its end.
func linesOf(text string) []string {
	if text == "" {
		return nil
	}
	return strings.SplitAfter(text+"\n", "\n")[:strings.Count(text, "\n")+1]
}

// areOnce reports whether no two lines have the same i-th word.
func areOnce(lines []string, i int) bool {
	seen := map[string]bool{}
	for _, line := range lines {
		word := strings.Fields(line)[i]
		if seen[word] {
			return false
		}
		seen[word] = true
	}
	return true
}

// P10.9 and P0.6: rulings and burials of all offices, while messages get lost and the power goes off.
func TestOnce(t *testing.T) {
	t.Parallel()
	x := noise(305)
	rulings, burials, buries := 0, 0, 0
	for range 150 {
		offices := x.from(1, 3)
		y := vault.New()
		do(t, y, fmt.Sprintf("begin %d %d %d %d", offices, x.from(1, 3), x.from(1, 3), x.from(2, 20)))
		said := map[string]int{} // the leases under which was buried with OK, and the day
		for range 100 {
			p, q := x.below(offices), x.below(offices)
			switch x.below(12) {
			case 0, 1:
				do(t, y, fmt.Sprint("day ", x.from(1, 3)))
			case 2, 3:
				y.Do(one(&x, fmt.Sprintf("send %d %d %s", p, q, one(&x, "1", "0111", "10", "321")), fmt.Sprintf("talk %d %d", p, q), "sendall", "sendall"))
			case 4:
				y.Do(one(&x, fmt.Sprintf("crash %d %d", p, x.from(1, 9)), fmt.Sprintf("compact %d", p)))
			case 5:
				do(t, y, fmt.Sprintf("open %d %s", p, one(&x, "0", "9", "99", "81")))
			default:
				form := aCourtForm(&x, y, p)
				lease, is := strings.CutPrefix(form, "bury ")
				if _, err := y.Do(fmt.Sprintf("write %d %s", p, form)); err == api.OK && is {
					said[lease] = y.Day()
					buries++
				}
			}
			holdOnce(t, y, said)
		}
		openAll(t, y, &x)
		do(t, y, "day 40")
		for p := range offices {
			do(t, y, fmt.Sprintf("write %d keep", p))
		}
		do(t, y, "sendall")
		holdOnce(t, y, said)
		ruled, buried := linesOf(do(t, y, "rulings 0")), linesOf(do(t, y, "buried 0"))
		if len(buried) < len(said) || len(ruled) != len(linesOf(do(t, y, "claims 0"))) {
			t.Fatal(y.Transcript())
		}
		rulings, burials = rulings+len(ruled), burials+len(buried)
	}
	if rulings < 300 || burials < 50 || buries < 50 {
		t.Error(rulings, burials, buries)
	}
}

// holdOnce fails unless rulings and burials are as promised.
func holdOnce(t *testing.T, y *vault.Model, said map[string]int) {
	t.Helper()
	ruled, buried := "", "" // the longest so far
	for p := range y.Offices() {
		rulings, err := y.Do(fmt.Sprint("rulings ", p))
		if err != api.OK {
			continue
		}
		burials := do(t, y, fmt.Sprint("buried ", p))
		r, b := linesOf(rulings), linesOf(burials)
		if !isPrefix(strings.Join(r, ""), ruled) || !isPrefix(strings.Join(b, ""), buried) || !areOnce(r, 0) || !areOnce(b, 0) || !areOnce(b, 1) {
			t.Fatal(y.Transcript())
		}
		ruled, buried = max(ruled, strings.Join(r, "")), max(buried, strings.Join(b, ""))
		c, _ := y.Court(p)
		closed, _ := court.Closed(c)
		for lease, day := range said {
			isBuried := slices.ContainsFunc(b, func(line string) bool { return strings.Fields(line)[2] == lease })
			if day <= closed && !isBuried {
				t.Fatal(lease, day, closed, burials)
			}
		}
	}
}

// knownOf returns what an office has made of its entries.
func knownOf(t *testing.T, y *vault.Model, p int) scrap {
	t.Helper()
	var s scrap
	var err api.Errno
	if s.register, err = y.Register(p); err != api.OK {
		t.Fatal(err)
	}
	s.code, _ = y.Code(p)
	s.ties, _ = y.Reviewed(p)
	s.refused, _ = y.Refused(p)
	return s
}

// P10.10 and P0.4: what an event does not touch is told as before; what is refused changes nothing.
func TestLineage(t *testing.T) {
	t.Parallel()
	x := noise(306)
	events, refused := 0, 0
	for range 80 {
		y := vault.New()
		do(t, y, "begin 1 5 10 20")
		for range 40 {
			if x.below(4) == 0 {
				do(t, y, "day 1")
			}
			before := knownOf(t, y, 0)
			do(t, y, "write 0 "+one(&x, anEvent(&x), anEvent(&x), anEvent(&x), same12, fmt.Sprintf("tie %d 1 2 apart 5 5", x.from(2048, 2050)), fmt.Sprint("untie ", x.from(2048, 2050))))
			after := knownOf(t, y, 0)
			if after.refused > before.refused {
				refused++
				after.refused--
				if !alike(after, before) {
					t.Fatal(before, after)
				}
				continue
			}
			if n := len(before.register.Events); len(after.register.Events) == n+1 {
				events++
				holdUntouched(t, before.register, after.register, n, y.Day())
			}
		}
	}
	if events < 400 || refused < 500 {
		t.Error(events, refused)
	}
}

// holdUntouched fails if something that an event does not touch is told otherwise.
func holdUntouched(t *testing.T, before, after api.Register, event, day int) {
	t.Helper()
	touched, err := finds.Touched(after, event)
	if err != api.OK {
		t.Fatal(err)
	}
	for no := range 13 {
		if slices.Contains(touched, no) {
			continue
		}
		f, err := finds.At(before, no, day)
		g, fault := finds.At(after, no, day)
		if !alike(f, g) || err != fault {
			t.Fatal(no, f, err, g, fault)
		}
	}
}

// P10.11: the graph that counts is sound, and has all ties that are strong enough; with a tie taken back strength is not greater.
func TestStrength(t *testing.T) {
	t.Parallel()
	x := noise(307)
	weak, less := 0, 0
	for range 150 {
		y := newBoth(t, "begin 1 5 10 20")
		for range x.from(2, 6) {
			y.hold(t, "write 0 "+anEvent(&x))
		}
		for range 25 {
			form := one(&x, anEvent(&x), fmt.Sprintf("tie %d %d %d %s %d 9", x.from(2048, 2080), x.from(1, 3), x.from(4, 6), one(&x, "apart", "together"), x.from(1, 6)), fmt.Sprintf("untie %d", x.from(2048, 2080)), fmt.Sprintf("rule %d 0 %s %d 9 %s", x.below(3), one(&x, "apart", "together"), x.from(1, 6), one(&x, texts()...)))
			before, fault := y.hold(t, "strength 0")
			y.hold(t, "write 0 "+form)
			after, err := y.hold(t, "strength 0")
			if err != api.OK {
				continue
			}
			n := at(after)
			if n > 1 {
				weak++
			}
			if fault == api.OK && strings.HasPrefix(form, "untie") {
				if n > at(before) {
					t.Fatal(form, before, after)
				}
				if n < at(before) {
					less++
				}
			}
			holdStrong(t, y, n)
		}
	}
	if weak < 50 || less < 3 {
		t.Error(weak, less)
	}
}

// holdStrong fails unless the graph that counts has the ties that are so strong, and does not contradict itself.
func holdStrong(t *testing.T, y both, strength int) {
	t.Helper()
	g, err := y.Graph(0)
	if err != api.OK {
		t.Fatal(err)
	}
	if _, is, err := ties.Clash(g); is || err != api.OK {
		t.Fatal(g)
	}
	whole, _ := y.paper.whole(0)
	for _, tie := range whole.Ties {
		if tie.Strength >= strength != slices.Contains(g.Ties, tie) {
			t.Fatal(whole, g, strength)
		}
	}
}

// P10.11: ties that are too weak are left out all together, the strongest ones stay.
func TestWeakTies(t *testing.T) {
	y := vault.New()
	do(t, y, four()...)
	prints(t, y, "strength 0", "1")
	for _, x := range [][2]string{
		{"tie 2049 1 2 together 50 1", "51"}, {"tie 2050 3 4 apart 51 1", "51"}, {"untie 2048", "1"}, {"tie 2051 2 1 apart 100 1", "51"}, {"tie 2052 1 2 together 100 1", "101"}, {"tie 2053 3 4 together 7 1", "101"}, {"untie 2051", "8"}, {"untie 2050", "1"},
	} {
		do(t, y, "write 0 "+x[0])
		prints(t, y, "strength 0", x[1])
	}
	g, err := y.Graph(0)
	want := []api.Tie{{A: 0, B: 1, Kind: api.TogetherT, Strength: 50, Source: 2049}, {A: 0, B: 1, Kind: api.TogetherT, Strength: 100, Source: 2052}, {A: 2, B: 3, Kind: api.TogetherT, Strength: 7, Source: 2053}}
	if !slices.Equal(g.Ties, want) || g.Nodes != 4 || err != api.OK {
		t.Error(g, err)
	}
}
