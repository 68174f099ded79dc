package vault_test

import (
	"fmt"
	"slices"
	"strings"
	"testing"

	"bonehouse/api"
	"bonehouse/vault"
)

// many returns lines by which an office enters so many finds, from the number 1 on: of different squares.
func many(p, from, number int) []string {
	var l []string
	for find := from; find < from+number; find++ {
		l = append(l, fmt.Sprintf("write %d enter find %d 12 1 %d 20-30 0 0 1 %d", p, find, find%16, find%256))
	}
	return l
}

// P10.2 and P10.3: questions if there are no finds, or too many.
func TestNumbersOfFinds(t *testing.T) {
	y := newBoth(t, "begin 2 5 10 20")
	ask := func(want api.Errno) {
		t.Helper()
		for _, line := range []string{"strength 0", "least 0", "relate 0 1 2 0", "relate 0 1 4000 0", "plan 0 1 2 0 1/2/3", "plan 0 1 2 0 1/4000/3", "repeat 0"} {
			if want != api.OK {
				fails(t, y.Model, line, want)
			}
		}
		if g, err := y.Graph(0); err != want || err != api.OK && !alike(g, api.Graph{}) {
			t.Error(g, err)
		}
		for _, line := range []string{"refused 0", "finds 0", "claims 0", "rulings 0", "buried 0", "agree 0 0", "agree 0 1"} {
			if _, err := y.hold(t, line); err != api.OK {
				t.Error(line, err)
			}
		}
		holdKnown(t, y.Model, y.paper)
	}
	ask(api.ErrNone)
	do(t, y.Model, many(0, 1, 32)...)
	for _, line := range many(0, 1, 32) {
		y.paper.do(line)
	}
	ask(api.OK)
	prints(t, y.Model, "strength 0", "1")
	prints(t, y.Model, "repeat 0", "12 0 2 2")
	y.hold(t, many(0, 100, 1)[0])
	ask(api.ErrLimit)
	if l, err := y.Finds(0); len(l) != 33 || err != api.OK {
		t.Error(l, err)
	}
	// Of those that stand it counts, not of those that are there.
	y.hold(t, "write 0 withdraw 3")
	prints(t, y.Model, "strength 0", "1")
	y.hold(t, "write 0 join 1 2 99")
	prints(t, y.Model, "strength 0", "1")
	for _, find := range []int{99, 100} {
		do(t, y.Model, fmt.Sprint("write 1 withdraw ", find))
	}
	for find := 4; find <= 32; find++ {
		do(t, y.Model, fmt.Sprint("write 1 withdraw ", find))
	}
	do(t, y.Model, "day 1", "write 1 keep", "send 1 0 1")
	fails(t, y.Model, "least 0", api.ErrNone)
	prints(t, y.Model, "finds 0", "")
}

// P10.2 and P10.3: the whole graph has as many ties as a graph can have, or more.
func TestNumbersOfTies(t *testing.T) {
	y := newBoth(t, append([]string{"begin 2 5 10 20"}, many(0, 1, 32)...)...)
	// Each two of 32 finds have a tie by the first rule: 496. By the second one the find 1 has one with each of the finds 2 to 17.
	y.hold(t, "write 1 rule 7 0 together 50 1 a.element = b.element")
	y.hold(t, "write 1 rule 8 0 together 60 1 a.no = 1 and b.no < 18")
	y.hold(t, "send 1 0 1")
	if out, err := y.hold(t, "strength 0"); out != "1" || err != api.OK { // 496 and 16
		t.Error(out, err)
	}
	if g, err := y.Graph(0); len(g.Ties) != 512 || err != api.OK {
		t.Error(len(g.Ties), err)
	}
	if out, err := y.hold(t, "least 0"); out != "1 sharp" || err != api.OK {
		t.Error(out, err)
	}
	// A proof would need a further tie.
	for _, line := range []string{"relate 0 1 2 0", "relate 0 1 1 0", "relate 0 5 9 3"} {
		fails(t, y.Model, line, api.ErrLimit)
	}
	prints(t, y.Model, "plan 0 1 2 0 1/2/3", "0")
	fails(t, y.Model, "relate 0 1 400 0", api.ErrNone)
	// A reviewed tie more is one too many, unless it is one of a find with itself, or with none.
	y.hold(t, "write 1 tie 3000 1 400 apart 50 1")
	y.hold(t, "send 1 0 1")
	if out, err := y.hold(t, "strength 0"); out != "1" || err != api.OK {
		t.Error(out, err)
	}
	y.hold(t, "write 1 tie 3001 1 2 apart 50 1")
	y.hold(t, "send 1 0 1")
	for _, line := range []string{"strength 0", "least 0", "relate 0 1 2 0", "relate 0 1 400 0", "plan 0 1 2 0 1/2/3", "plan 0 1 400 0 1/2/3"} {
		fails(t, y.Model, line, api.ErrLimit)
	}
	if g, err := y.Graph(0); !alike(g, api.Graph{}) || err != api.ErrLimit {
		t.Error(g, err)
	}
	prints(t, y.Model, "repeat 0", "12 0 2 2")
	prints(t, y.Model, "refused 0", "0")
	y.hold(t, "write 1 untie 3001")
	y.hold(t, "send 1 0 1")
	prints(t, y.Model, "strength 0", "1")
	// Too many by the rules alone.
	y.hold(t, "write 1 rule 9 0 together 60 1 a.no = 2 and b.no = 3")
	y.hold(t, "send 1 0 1")
	for _, line := range []string{"strength 0", "least 0", "relate 0 1 400 0"} {
		fails(t, y.Model, line, api.ErrLimit)
	}
	// The graph that counts may have room for a proof even if the whole one has not.
	do(t, y.Model, "write 1 gone 9 0", "write 1 untie 3000", "write 1 gone 8 0", "write 1 rule 8 0 apart 40 1 a.no = 1 and b.no < 18", "send 1 0 1")
	prints(t, y.Model, "strength 0", "41")
	prints(t, y.Model, "relate 0 1 2 0", "surely")
}

// P10.2: graphs of too many groups, and problems of too many worlds.
func TestNumbersOfGroups(t *testing.T) {
	y := newBoth(t, append([]string{"begin 1 5 10 20"}, many(0, 1, 17)...)...)
	prints(t, y.Model, "strength 0", "1")
	fails(t, y.Model, "least 0", api.ErrLimit)
	fails(t, y.Model, "relate 0 1 2 0", api.ErrLimit)
	fails(t, y.Model, "relate 0 1 1 0", api.ErrLimit)
	fails(t, y.Model, "relate 0 1 18 0", api.ErrNone)
	do(t, y.Model, "write 0 tie 2048 1 2 together 5 5")
	prints(t, y.Model, "least 0", "1 sharp")
	fails(t, y.Model, "relate 0 1 2 0", api.ErrLimit)
	fails(t, y.Model, "plan 0 1 2 0 1/2/3", api.ErrLimit)
	fails(t, y.Model, "plan 0 1 2 0 1/2/3 1/99/3", api.ErrNone)
	for find := 3; find < 9; find++ {
		do(t, y.Model, fmt.Sprintf("write 0 tie %d 1 %d together 5 5", 2046+find, find))
	}
	prints(t, y.Model, "relate 0 1 2 0", "surely")
	prints(t, y.Model, "relate 0 1 9 0", "possibly")
	fails(t, y.Model, "plan 0 1 2 0 1/2/3", api.ErrLimit)
	prints(t, y.Model, "plan 0 1 2 1 1/2/3", "0")
	// Four groups have 15 partitions; 10, if two of them are kept apart.
	for find := 9; find < 15; find++ {
		do(t, y.Model, fmt.Sprintf("write 0 tie %d 1 %d together 5 5", 2046+find, find))
	}
	fails(t, y.Model, "plan 0 1 17 0 1/17/3", api.ErrLimit)
	do(t, y.Model, "write 0 tie 4000 15 16 apart 5 5")
	prints(t, y.Model, "plan 0 1 17 0 1/17/3", "3")
	fails(t, y.Model, "plan 0 1 17 1 1/17/3", api.ErrNone)
	fails(t, y.Model, "relate 0 1 17 1", api.ErrNone)
}

// P10.3: entries are considered by their days, then by office, then by number.
func TestOrderOfEntries(t *testing.T) {
	y := newBoth(t, "begin 3 5 10 20", "write 2 enter find 1 12 1 0 20-30 0 0 1 1", "write 1 date 1 21-30", "day 1", "write 1 date 1 22-30", "write 0 date 1 23-30", "write 0 date 1 24-30", "day 1", "write 0 date 1 25-30", "sendall")
	// On day 0 the office 1 comes ahead of the office 2: there is no find 1 yet.
	for p := range 3 {
		prints(t, y.Model, fmt.Sprint("refused ", p), "1")
		r, err := y.Register(p)
		var known, ages []int
		for no, e := range r.Events {
			if e.No != no {
				t.Error(r)
			}
			known, ages = append(known, e.Known), append(ages, e.Data.Age.Lo)
		}
		if !slices.Equal(known, []int{0, 1, 1, 1, 2}) || !slices.Equal(ages, []int{20, 23, 24, 22, 25}) || err != api.OK {
			t.Error(r, err)
		}
	}
	// What comes later can be refused by what comes from elsewhere then.
	y = newBoth(t, "begin 2 5 10 20", "write 1 tie 2048 1 2 apart 5 5", "write 0 tie 2048 3 4 together 6 6", "write 1 untie 2048")
	prints(t, y.Model, "refused 1", "0")
	if l, err := y.Reviewed(1); len(l) != 0 || err != api.OK {
		t.Error(l, err)
	}
	y.hold(t, "sendall")
	for p := range 2 {
		prints(t, y.Model, fmt.Sprint("refused ", p), "1")
		if l, err := y.Reviewed(p); len(l) != 0 || err != api.OK {
			t.Error(l, err)
		}
	}
}

// P10.3: ties that are refused.
func TestReviewed(t *testing.T) {
	y := vault.New()
	do(t, y, "begin 1 5 10 20")
	refused := 0
	var names []int
	for i, x := range []struct {
		form  string
		is    bool
		names []int
	}{
		{"untie 2050", false, nil}, {"tie 2050 1 2 apart 5 5", true, []int{2050}}, {"tie 2050 1 2 apart 5 5", false, []int{2050}}, {"tie 2050 3 4 together 6 6", false, []int{2050}}, {"tie 2048 3 4 together 6 6", true, []int{2048, 2050}}, {"untie 2049", false, []int{2048, 2050}}, {"untie 2050", true, []int{2048}}, {"untie 2050", false, []int{2048}}, {"tie 2050 1 2 apart 5 5", false, []int{2048}}, {"untie 2050", false, []int{2048}}, {"tie 4095 7 0 apart 100 0", true, []int{2048, 4095}}, {"tie 2049 7 0 apart 1 0", true, []int{2048, 2049, 4095}},
		{"rule 1 0 apart 5 5 a.no = 1", true, []int{2048, 2049, 4095}}, {"gone 1 0", true, []int{2048, 2049, 4095}}, {"gone 2 0", true, []int{2048, 2049, 4095}}, {"split 7", false, []int{2048, 2049, 4095}}, {"claim 1 1", true, []int{2048, 2049, 4095}}, {"lease 1 1", true, []int{2048, 2049, 4095}},
	} {
		do(t, y, "write 0 "+x.form)
		if !x.is {
			refused++
		}
		l, err := y.Reviewed(0)
		names = nil
		for _, tie := range l {
			names = append(names, tie.Source)
		}
		if n, _ := y.Refused(0); n != refused || !slices.Equal(names, x.names) || err != api.OK {
			t.Error(i, n, refused, names, err)
		}
	}
	l, _ := y.Reviewed(0)
	if want := []api.Tie{{A: 3, B: 4, Kind: api.TogetherT, Strength: 6, Source: 2048}, {A: 7, B: 0, Kind: api.ApartT, Strength: 1, Source: 2049}, {A: 7, B: 0, Kind: api.ApartT, Strength: 100, Source: 4095}}; !slices.Equal(l, want) {
		t.Error(l)
	}
}

// P10.3: registers and codes that are full.
func TestFullRegisters(t *testing.T) {
	y := vault.New()
	do(t, y, "begin 8 5 10 20")
	for p := range 5 {
		do(t, y, many(p, 64*p, 60)...)
	}
	for n := range 40 {
		do(t, y, fmt.Sprintf("write 5 rule %d 0 apart 5 5 a.no = %d", n, n))
	}
	do(t, y, "sendall")
	for p := range 8 {
		r, err := y.Register(p)
		c, fault := y.Code(p)
		if len(r.Events) != api.MaxEvents || len(c.Rules) != api.MaxRules || err != api.OK || fault != api.OK || c.Rules[31].Name != 31 {
			t.Error(len(r.Events), err, len(c.Rules), fault)
		}
		prints(t, y, fmt.Sprint("refused ", p), fmt.Sprint(300-256+8))
	}
	if out := do(t, y, "finds 7"); len(strings.Fields(out)) != 256 {
		t.Error(out)
	}
	prints(t, y, "agree 3 7", "yes")
}

// P10.2 and P10.3: which nodes finds have.
func TestNodes(t *testing.T) {
	y := vault.New()
	do(t, y, "begin 1 5 10 20", "write 0 enter find 5 12 1 0 20-30 0 0 1 1", "write 0 enter find 2 12 1 1 20-30 0 0 1 1", "write 0 enter find 8 12 3 2 20-30 0 0 1 1", "write 0 enter find 0 3 0 2 20-30 0 0 1 1")
	do(t, y, "write 0 tie 2048 2 0 apart 50 1", "write 0 tie 2049 5 2 together 60 1", "write 0 tie 2050 8 0 apart 70 1", "write 0 tie 2051 8 9 apart 80 1", "write 0 tie 2052 3 4 apart 90 1")
	graph := func(want ...api.Tie) {
		t.Helper()
		g, err := y.Graph(0)
		if l, _ := y.Finds(0); !slices.Equal(g.Ties, want) || g.Nodes != len(l) || err != api.OK {
			t.Error(g, err, want)
		}
	}
	apart := func(a, b, strength, no int) api.Tie {
		return api.Tie{A: a, B: b, Kind: api.ApartT, Strength: strength, Source: no}
	}
	one := api.Tie{A: 2, B: 1, Kind: api.TogetherT, Strength: 60, Source: 2049}
	graph(apart(1, 0, 50, 2048), one, apart(3, 0, 70, 2050)) // 0 2 5 8
	do(t, y, "write 0 join 5 2 9")
	graph(apart(2, 0, 50, 2048), apart(1, 0, 70, 2050), apart(1, 2, 80, 2051)) // 0 8 9: 5 and 2 are one node
	do(t, y, "write 0 join 9 8 1")
	graph(apart(1, 0, 50, 2048), apart(1, 0, 70, 2050)) // 0 1
	prints(t, y, "relate 0 5 0 0", "never")
	prints(t, y, "relate 0 9 8 0", "surely")
	prints(t, y, "plan 0 5 2 0 9/1/3 0/8/4", "0")
	// Behind a split both have a node again, the find that was split has none.
	do(t, y, "write 0 split 1")
	fails(t, y, "relate 0 1 5 0", api.ErrNone)
	prints(t, y, "relate 0 9 5 0", "surely")
	do(t, y, "write 0 split 9", "write 0 withdraw 8")
	fails(t, y, "relate 0 9 5 0", api.ErrNone)
	fails(t, y, "relate 0 8 8 0", api.ErrNone)
	fails(t, y, "relate 0 7 7 0", api.ErrNone)
	fails(t, y, "plan 0 5 2 0 8/2/1", api.ErrNone)
	fails(t, y, "plan 0 5 2 0 5/2/1 2/8/1", api.ErrNone)
	graph(apart(1, 0, 50, 2048), one)
	// A part of what was withdrawn has no node.
	do(t, y, "write 0 join 5 2 7", "write 0 withdraw 7")
	fails(t, y, "relate 0 5 5 0", api.ErrNone)
	prints(t, y, "finds 0", "0")
	graph()
}

// P10.3: rules by the present day: from the day on that they name.
func TestRulesByDay(t *testing.T) {
	y := vault.New()
	do(t, y, four()...)
	do(t, y, "write 0 rule 5 3 apart 60 9 a.no = 3 and b.no = 4", "write 0 gone 5 6")
	prints(t, y, "relate 0 3 4 0", "possibly")
	do(t, y, "day 2")
	prints(t, y, "relate 0 3 4 0", "possibly")
	do(t, y, "day 1")
	prints(t, y, "relate 0 3 4 0", "never")
	do(t, y, "day 2")
	prints(t, y, "relate 0 3 4 0", "never")
	do(t, y, "day 1")
	prints(t, y, "relate 0 3 4 0", "possibly")
	if c, err := y.Code(0); len(c.Rules) != 2 || c.Rules[1].No != 1 || err != api.OK {
		t.Error(c, err)
	}
}

// P10.2: agree compares what was made of entries, and what was heard.
func TestAgree(t *testing.T) {
	y := newBoth(t, "begin 3 5 10 20")
	for _, x := range [][2]string{
		{"agree 0 1", "yes"}, {"write 0 keep", "0.0"}, {"agree 0 1", "no"}, {"agree 1 0", "no"}, {"agree 1 2", "yes"}, {"agree 0 0", "yes"}, {"write 1 keep", "1.0"}, {"agree 0 1", "no"}, {"send 0 1 1", "1"}, {"agree 0 1", "no"}, {"send 1 0 1", "1"}, {"agree 0 1", "yes"}, {"write 0 split 4", "0.1"}, {"agree 0 1", "no"},
	} {
		if out, err := y.hold(t, x[0]); out != x[1] || err != api.OK {
			t.Error(x, out, err)
		}
	}
}
