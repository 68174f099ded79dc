package vault_test

import (
	"fmt"
	"slices"
	"strings"
	"testing"

	"bonehouse/api"
	"bonehouse/finds"
	"bonehouse/rules"
	"bonehouse/vault"
)

// P0.1 to P0.6: the document's examples of the whole system.
func TestDocumentExamples(t *testing.T) {
	// 1: ages that do not meet.
	y := vault.New()
	do(t, y, "begin 1 5 10 20", "write 0 rule 1 0 apart 90 7 not within(a.age, b.age, 0)", "write 0 enter find 1 12 1 0 20-30 0 0 1 1", "write 0 enter find 2 12 1 1 35-50 0 0 1 1", "write 0 enter find 3 12 1 2 30-35 0 0 1 1")
	prints(t, y, "relate 0 1 2 0", "never")
	prints(t, y, "relate 0 1 3 0", "possibly")
	// 2: a find of one person with one that is kept apart from a third one.
	y = vault.New()
	do(t, y, append(four(), "write 0 tie 2049 2 3 together 50 1")...)
	prints(t, y, "relate 0 1 3 0", "never")
	g, err := y.Graph(0)
	if want := []api.Tie{{A: 0, B: 1, Kind: api.ApartT, Strength: 50, Source: 2048}, {A: 1, B: 2, Kind: api.TogetherT, Strength: 50, Source: 2049}}; !slices.Equal(g.Ties, want) || err != api.OK {
		t.Error(g, err)
	}
	// 3: a ring of five.
	y = vault.New()
	do(t, y, "begin 1 5 10 20")
	for n := range 5 {
		do(t, y, fmt.Sprintf("write 0 enter find %d 12 1 0 20-30 0 0 1 1", n+1), fmt.Sprintf("write 0 tie %d %d %d apart 50 1", 2048+n, n+1, (n+1)%5+1))
	}
	prints(t, y, "least 0", "3")
	// 4: at most two people.
	y = vault.New()
	do(t, y, append(four(), "write 0 tie 2049 1 4 apart 50 1")...)
	prints(t, y, "relate 0 2 4 2", "surely")
	prints(t, y, "relate 0 2 4 0", "possibly")
	// 5: one test that tells all, or two cheaper ones.
	y = vault.New()
	do(t, y, four()...)
	prints(t, y, "plan 0 1 3 2 3/4/3 1/4/4", "7")
	prints(t, y, "plan 0 1 3 2 2/3/5 3/4/3 1/4/4", "5")
	prints(t, y, "plan 0 1 3 2 2/3/7 3/4/3 1/4/3", "6")
	prints(t, y, "plan 0 1 3 2 3/4/3", "none")
	// 6: two families.
	y = vault.New()
	do(t, y, "begin 1 5 10 20", "write 0 claim 7 100", "write 0 object 0 200", "write 0 sample 0 100 55", "write 0 sample 0 200 60", "day 15", "write 0 keep", "day 1")
	fails(t, y, "write 0 sample 0 100 99", api.ErrLate)
	prints(t, y, "rulings 0", "")
	prints(t, y, "claims 0", "0 2 15")
	do(t, y, "day 1", "write 0 keep")
	prints(t, y, "rulings 0", "0 15 7 200")
	prints(t, y, "claims 0", "0 3 15")
}

// inquiries calls each with models of one office that was asked much, and with all commands and what they printed.
func inquiries(seed noise, number, lines int, each func(y *vault.Model, w []string, out string)) {
	x := seed
	for range number {
		y := vault.New()
		for _, line := range inquiry(&x, lines) {
			if out, err := y.Do(line); err == api.OK {
				each(y, strings.Split(line, " "), out)
			}
		}
	}
}

// P0.1 and P10.6: no partition has fewer people than the least number that is told, and some has so many.
func TestLeastNumber(t *testing.T) {
	seen := map[string]int{}
	inquiries(401, 300, 30, func(y *vault.Model, w []string, out string) {
		if w[0] != "least" {
			return
		}
		g, err := y.Graph(0)
		least := g.Nodes
		for _, l := range allParted(g, 0) {
			least = min(least, peopleOf(l))
		}
		if at(strings.Fields(out)[0]) != least || err != api.OK {
			t.Fatal(g, out, least)
		}
		lines := strings.Split(strings.TrimSuffix(y.Transcript(), "\n"), "\n")
		if l, is := partsOf(strings.TrimPrefix(lines[len(lines)-2], "! parted")); !is || peopleOf(l) != least {
			t.Fatal(lines)
		}
		seen[out]++
	})
	if seen["1 sharp"] < 30 || seen["2 sharp"] < 30 || seen["3 sharp"] < 5 {
		t.Error(seen)
	}
}

// P0.2 and P10.6: finds are surely, or never, of one person exactly if all partitions say so; otherwise two of them are told.
func TestSureAndNever(t *testing.T) {
	seen := map[string]int{}
	inquiries(402, 300, 30, func(y *vault.Model, w []string, out string) {
		if w[0] != "relate" {
			return
		}
		g, _ := y.Graph(0)
		l, _ := y.Finds(0)
		node := func(word string) int {
			return slices.IndexFunc(l, func(f api.Find) bool { return f.No == at(word) })
		}
		if want := relationOf(allParted(g, at(w[4])), node(w[2]), node(w[3])); out != want {
			t.Fatal(g, w, out, want)
		}
		seen[out]++
	})
	if min(seen["surely"], seen["never"], seen["possibly"]) < 50 {
		t.Error(seen)
	}
}

// P0.5 and P10.6: what a plan costs, and that its tree answers rightly in every world.
func TestPlans(t *testing.T) {
	trees, twins := 0, 0
	inquiries(403, 300, 30, func(y *vault.Model, w []string, out string) {
		if w[0] != "plan" {
			return
		}
		g, _ := y.Graph(0)
		l, _ := y.Finds(0)
		node := func(word string) int {
			return slices.IndexFunc(l, func(f api.Find) bool { return f.No == at(word) })
		}
		var trials [][3]int
		for _, word := range w[5:] {
			n := strings.Split(word, "/")
			trials = append(trials, [3]int{node(n[0]), node(n[1]), at(n[2])})
		}
		all := allParted(g, at(w[4]))
		a, b := node(w[2]), node(w[3])
		if want := planOf(all, a, b, trials); out != want {
			t.Fatal(g, w, out, want)
		}
		if out == "none" {
			twins++
			return
		}
		lines := strings.Split(strings.TrimSuffix(y.Transcript(), "\n"), "\n")
		tree, is := treeOf(strings.TrimPrefix(lines[len(lines)-1], "! tree"))
		for _, world := range all {
			cost, n := 0, tree[0]
			for n.Trial >= 0 {
				trial := trials[n.Trial]
				cost += trial[2]
				outcome := 0
				if world[trial[0]] == world[trial[1]] {
					outcome = 1
				}
				n = tree[n.Next[outcome]]
			}
			if n.Answer != (world[a] == world[b]) || cost > at(out) || !is {
				t.Fatal(w, out, tree, world)
			}
		}
		trees++
	})
	if min(trees, twins) < 100 {
		t.Error(trees, twins)
	}
}

// sharper returns the form of an event by which something more is known of a find.
func sharper(x *noise, f api.Find) string {
	switch x.below(3) {
	case 0:
		lo := x.from(f.Age.Lo, f.Age.Hi)
		return fmt.Sprintf("date %d %d-%d", f.No, lo, x.from(lo, f.Age.Hi))
	case 1:
		for _, m := range f.Measures {
			value := x.from(m.Value-m.Error, m.Value+m.Error)
			most := m.Error - max(value-m.Value, m.Value-value)
			return fmt.Sprintf("measure %d %d=%d/%d", f.No, m.Kind, value, x.from(0, most))
		}
		return fmt.Sprintf("measure %d 3=%d/%d", f.No, x.from(400, 420), x.below(9))
	}
	side := f.Side
	if side == api.EitherS {
		side = x.from(1, 3)
	}
	return fmt.Sprintf("assign %d %d %d %s %d %d", f.No, f.Element, side, strings.Fields(lineOf(f))[4], f.Sex, f.Wear)
}

// lineOf returns the line of a find.
func lineOf(f api.Find) string {
	s, _ := finds.PrintFind(f)
	return s
}

// P0.3: what keeps finds apart does so with whatever is known more exactly.
func TestKnownMoreExactly(t *testing.T) {
	x := noise(404)
	kept := 0
	for range 60 {
		y := vault.New()
		do(t, y, "begin 1 5 10 20", "write 0 rule 1 0 apart 50 1 "+texts()[0], "write 0 rule 2 0 apart 60 1 "+texts()[1], "write 0 rule 3 0 apart 70 1 not within(a.m3, b.m3, 3)")
		for find := range 5 {
			lo := x.from(20, 40)
			do(t, y, fmt.Sprintf("write 0 enter find %d 12 %d %s %d-%d 0 0 1 1 3=%d/%d", find+1, x.from(1, 3), one(&x, "0", "1", "0-1"), lo, lo+x.below(30), x.from(400, 420), x.below(15)))
		}
		for range 12 {
			before, _ := y.Graph(0)
			l, _ := y.Finds(0)
			do(t, y, "write 0 "+sharper(&x, l[x.below(len(l))]))
			prints(t, y, "refused 0", "0")
			after, err := y.Graph(0)
			for _, tie := range before.Ties {
				if !slices.Contains(after.Ties, tie) || err != api.OK {
					t.Fatal(y.Transcript())
				}
				prints(t, y, fmt.Sprintf("relate 0 %d %d 0", l[tie.A].No, l[tie.B].No), "never")
				kept++
			}
		}
	}
	if kept < 500 {
		t.Error(kept)
	}
}

// P0.3: what was known on a day does not change by what becomes known later.
func TestKnownThen(t *testing.T) {
	x := noise(405)
	for range 80 {
		y := vault.New()
		do(t, y, "begin 1 5 10 20")
		var then []string // what was known on each day, at its end
		for day := range 8 {
			for range x.below(6) {
				do(t, y, "write 0 "+one(&x, anEvent(&x), anEvent(&x), anEvent(&x), fmt.Sprintf("rule %d %d apart 5 5 a.no = 1", x.below(3), x.below(6)), fmt.Sprintf("gone %d %d", x.below(3), x.below(6))))
			}
			r, _ := y.Register(0)
			c, _ := y.Code(0)
			then = append(then, knownOn(r, c, day))
			for past := range then {
				if known := knownOn(r, c, past); known != then[past] {
					t.Fatal(past, known, then[past])
				}
			}
			do(t, y, "day 1")
		}
	}
}

// knownOn returns what is known on a day.
func knownOn(r api.Register, c api.Code, day int) string {
	l, err := finds.Standing(r, day)
	text := fmt.Sprint(l, err)
	for no := range 10 {
		f, err := finds.At(r, no, day)
		whole, fault := finds.Whole(r, no, day)
		text += fmt.Sprint(f, err, whole, fault)
	}
	for on := range 10 {
		rules, err := rules.InForce(c, on, day)
		text += fmt.Sprint(rules, err)
	}
	return text
}
