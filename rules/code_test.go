package rules_test

import (
	"math"
	"slices"
	"strings"
	"testing"

	"bonehouse/api"
	"bonehouse/rules"
)

// rule returns a rule with a text.
func rule(no, name, known, at int, text string) api.Rule {
	return api.Rule{No: no, Name: name, Known: known, At: at, Effect: api.ApartF, Strength: 50, Reviewer: 7, Text: text}
}

// gone returns a rule that is gone.
func gone(no, name, known, at int) api.Rule {
	return api.Rule{No: no, Name: name, Known: known, At: at, Gone: true}
}

// code returns the code of rules.
func code(t testing.TB, l ...api.Rule) api.Code {
	t.Helper()
	var c api.Code
	for i, x := range l {
		next, err := rules.Add(c, x)
		if err != api.OK {
			t.Fatal(i, x, err)
		}
		c = next
	}
	return c
}

// P3.4: what is a rule, and what is none, at both ends of each range.
func TestCheckRule(t *testing.T) {
	const text = "a.no = b.no"
	for i, x := range []struct {
		change    func(x *api.Rule)
		rule, off api.Errno
	}{
		{func(x *api.Rule) {}, api.OK, api.OK},
		{func(x *api.Rule) { x.No, x.Name, x.Known, x.At = 0, 0, 0, 0 }, api.OK, api.OK}, {func(x *api.Rule) { x.No, x.Name, x.Known, x.At = 4095, 4095, api.MaxDay, api.MaxDay }, api.OK, api.OK},
		{func(x *api.Rule) { x.No = 4096 }, api.ErrRule, api.ErrRule}, {func(x *api.Rule) { x.Name = 4096 }, api.ErrRule, api.ErrRule}, {func(x *api.Rule) { x.Known = api.MaxDay + 1 }, api.ErrRule, api.ErrRule}, {func(x *api.Rule) { x.At = api.MaxDay + 1 }, api.ErrRule, api.ErrRule},
		{func(x *api.Rule) { x.No = -1 }, api.ErrRule, api.ErrRule}, {func(x *api.Rule) { x.Name = -1 }, api.ErrRule, api.ErrRule}, {func(x *api.Rule) { x.Known = -1 }, api.ErrRule, api.ErrRule}, {func(x *api.Rule) { x.At = -1 }, api.ErrRule, api.ErrRule},
		{func(x *api.Rule) { x.No = math.MaxInt }, api.ErrRule, api.ErrRule}, {func(x *api.Rule) { x.Name = math.MinInt }, api.ErrRule, api.ErrRule}, {func(x *api.Rule) { x.Known = math.MaxInt }, api.ErrRule, api.ErrRule}, {func(x *api.Rule) { x.At = math.MinInt }, api.ErrRule, api.ErrRule},
		{func(x *api.Rule) { x.Effect = 1 }, api.OK, api.ErrRule}, {func(x *api.Rule) { x.Effect = 2 }, api.OK, api.ErrRule}, {func(x *api.Rule) { x.Effect = 3 }, api.ErrRule, api.ErrRule}, {func(x *api.Rule) { x.Effect = 0 }, api.ErrRule, api.OK}, {func(x *api.Rule) { x.Effect = -1 }, api.ErrRule, api.ErrRule},
		{func(x *api.Rule) { x.Strength = 1 }, api.OK, api.ErrRule}, {func(x *api.Rule) { x.Strength = 100 }, api.OK, api.ErrRule}, {func(x *api.Rule) { x.Strength = 101 }, api.ErrRule, api.ErrRule}, {func(x *api.Rule) { x.Strength = 0 }, api.ErrRule, api.OK}, {func(x *api.Rule) { x.Strength = -1 }, api.ErrRule, api.ErrRule},
		{func(x *api.Rule) { x.Reviewer = 0 }, api.OK, api.OK}, {func(x *api.Rule) { x.Reviewer = 4095 }, api.OK, api.ErrRule}, {func(x *api.Rule) { x.Reviewer = 4096 }, api.ErrRule, api.ErrRule}, {func(x *api.Rule) { x.Reviewer = -1 }, api.ErrRule, api.ErrRule},
		{func(x *api.Rule) { x.Text = "" }, api.ErrRule, api.OK}, {func(x *api.Rule) { x.Text = "a.no" }, api.ErrRule, api.ErrRule}, {func(x *api.Rule) { x.Text = text + " " }, api.ErrRule, api.ErrRule}, {func(x *api.Rule) { x.Text = "(" + text + ")" }, api.ErrRule, api.ErrRule}, {func(x *api.Rule) { x.Text = "known a.m15" }, api.OK, api.ErrRule}, {func(x *api.Rule) { x.Text = "1 + 1 = 2" }, api.OK, api.ErrRule},
		{func(x *api.Rule) { x.Text = strings.Repeat("not ", 600) + text }, api.ErrRule, api.ErrRule}, {func(x *api.Rule) { x.Text = strings.Repeat("1", 2049) + " = 1" }, api.ErrRule, api.ErrRule}, {func(x *api.Rule) { x.Text = print(t, chain(64)) }, api.OK, api.ErrRule},
		{func(x *api.Rule) { x.Gone = !x.Gone }, api.ErrRule, api.ErrRule},
	} {
		one, other := rule(3, 4, 5, 6, text), gone(3, 4, 5, 6)
		x.change(&one)
		x.change(&other)
		if err := rules.CheckRule(one); err != x.rule {
			t.Error(i, one, err)
		}
		if err := rules.CheckRule(other); err != x.off {
			t.Error(i, other, err)
		}
	}
	if err := rules.CheckRule(api.Rule{}); err != api.ErrRule {
		t.Error(err)
	}
	if err := rules.CheckRule(api.Rule{Gone: true}); err != api.OK {
		t.Error(err)
	}
}

// P3.4: the first rule that is wrong decides which error there is.
func TestCheckCode(t *testing.T) {
	const text = "a.no = b.no"
	bad := rule(1, 5, 20, 0, "a.no")
	for i, x := range []struct {
		l    []api.Rule
		want api.Errno
	}{
		{nil, api.OK}, {[]api.Rule{}, api.OK}, {[]api.Rule{rule(0, 5, 20, 0, text)}, api.OK}, {[]api.Rule{gone(0, 5, 20, 0)}, api.OK},
		{[]api.Rule{rule(1, 5, 20, 0, text)}, api.ErrOrder}, {[]api.Rule{rule(0, 5, 20, 0, text), rule(0, 5, 20, 0, text)}, api.ErrOrder}, {[]api.Rule{rule(0, 5, 20, 0, text), rule(2, 5, 20, 0, text)}, api.ErrOrder},
		{[]api.Rule{rule(0, 5, 20, 0, text), rule(1, 5, 20, 0, text)}, api.OK}, {[]api.Rule{rule(0, 5, 20, 0, text), rule(1, 5, 19, 0, text)}, api.ErrOrder}, {[]api.Rule{rule(0, 5, 20, 9, text), rule(1, 5, 20, 8, text)}, api.OK},
		{[]api.Rule{bad}, api.ErrRule}, {[]api.Rule{rule(0, 5, 20, 0, text), bad}, api.ErrRule}, {[]api.Rule{rule(1, 5, 20, 0, text), bad}, api.ErrOrder}, {[]api.Rule{rule(0, 5, 20, 0, text), bad, rule(1, 5, 0, 0, text)}, api.ErrRule}, {[]api.Rule{rule(0, 5, 20, 0, text), rule(1, 5, 19, 0, text), bad}, api.ErrOrder}, {[]api.Rule{rule(0, 5, 20, 0, text), rule(1, 5, 19, 0, "a.no")}, api.ErrRule},
		{make([]api.Rule, 32), api.ErrRule}, {make([]api.Rule, 33), api.ErrLimit},
	} {
		if err := rules.CheckCode(api.Code{Rules: x.l}); err != x.want {
			t.Error(i, err)
		}
	}
}

// sameCode reports whether two codes are equal.
func sameCode(a, b api.Code) bool { return slices.Equal(a.Rules, b.Rules) }

// P3.4: Add, and the order of its errors.
func TestAdd(t *testing.T) {
	const text = "a.no = b.no"
	two := code(t, rule(0, 5, 20, 0, text), gone(1, 5, 20, 9))
	full := two
	for len(full.Rules) < 32 {
		full = code(t, append(slices.Clone(full.Rules), rule(len(full.Rules), 6, 30, 0, text))...)
	}
	wrong := api.Code{Rules: []api.Rule{rule(1, 5, 20, 0, text)}}
	for i, x := range []struct {
		c    api.Code
		x    api.Rule
		want api.Errno
	}{
		{two, rule(2, 5, 20, 0, text), api.OK}, {two, rule(2, 0, api.MaxDay, api.MaxDay, text), api.OK}, {two, gone(2, 4095, 21, 0), api.OK}, {api.Code{}, rule(0, 5, 0, 0, text), api.OK},
		{two, rule(1, 5, 20, 0, text), api.ErrOrder}, {two, rule(3, 5, 20, 0, text), api.ErrOrder}, {two, rule(2, 5, 19, 0, text), api.ErrOrder}, {api.Code{}, rule(1, 5, 0, 0, text), api.ErrOrder},
		{two, rule(2, 5, 20, 0, "a.no"), api.ErrRule}, {two, rule(1, 5, 20, 0, "a.no"), api.ErrRule}, {two, api.Rule{}, api.ErrRule},
		{full, rule(32, 5, 30, 0, text), api.ErrLimit}, {full, rule(31, 5, 0, 0, text), api.ErrLimit}, {full, rule(32, 5, 30, 0, "a.no"), api.ErrRule},
		{wrong, rule(1, 5, 20, 0, text), api.ErrOrder}, {wrong, api.Rule{}, api.ErrOrder}, {api.Code{Rules: make([]api.Rule, 33)}, api.Rule{}, api.ErrLimit}, {api.Code{Rules: make([]api.Rule, 33)}, rule(33, 5, 30, 0, text), api.ErrLimit}, {api.Code{Rules: make([]api.Rule, 1)}, rule(1, 5, 30, 0, text), api.ErrRule},
	} {
		before := slices.Clone(x.c.Rules)
		var want []api.Rule
		if x.want == api.OK {
			want = append(slices.Clone(before), x.x)
		}
		if c, err := rules.Add(x.c, x.x); err != x.want || !slices.Equal(c.Rules, want) || !slices.Equal(x.c.Rules, before) {
			t.Error(i, c, err)
		}
	}
}

// P3.4: Add returns new memory, also where the list that it is given has room.
func TestNewCodes(t *testing.T) {
	const text = "a.no = b.no"
	c := api.Code{Rules: make([]api.Rule, 1, 9)}
	c.Rules[0] = rule(0, 5, 20, 0, text)
	first, _ := rules.Add(c, rule(1, 6, 20, 0, text))
	second, _ := rules.Add(c, rule(1, 7, 20, 0, text))
	third, _ := rules.Add(first, rule(2, 8, 20, 0, text))
	if first.Rules[1].Name != 6 || second.Rules[1].Name != 7 || c.Rules[:2][1] != (api.Rule{}) {
		t.Error(first, second, c)
	}
	first.Rules[0].Name = 9
	c.Rules[0].Name = 10
	if !sameCode(third, code(t, rule(0, 5, 20, 0, text), rule(1, 6, 20, 0, text), rule(2, 8, 20, 0, text))) || second.Rules[0].Name != 5 || first.Rules[0].Name != 9 {
		t.Error(first, second, third)
	}
}

// aHistory returns a code in which rules of two names follow each other.
func aHistory(t testing.TB) api.Code {
	t.Helper()
	return code(t, rule(0, 5, 10, 10, "a.no = 1"), rule(1, 5, 20, 20, "a.no = 2"), gone(2, 5, 30, 25), rule(3, 6, 30, 15, "not within(a.age, b.age, 0)"), rule(4, 5, 40, 20, "a.no = 3"), rule(5, 5, 40, 25, "a.no = 1"), rule(6, 3, 50, 0, "1 = 1"), gone(7, 6, 60, 0))
}

// P3.4: InForce and Changed, at the days on which something changes.
func TestInForce(t *testing.T) {
	c := aHistory(t)
	for _, x := range []struct {
		day, known int
		want       []int
	}{
		{9, 100, []int{6}}, {0, 49, nil}, {10, 9, nil}, {9, 10, nil}, {10, 10, []int{0}}, {api.MaxDay, 10, []int{0}}, {20, 19, []int{0}}, {19, 20, []int{0}}, {20, 20, []int{1}}, {25, 29, []int{1}}, {24, 30, []int{1, 3}}, {25, 30, []int{3}}, {14, 30, []int{0}}, {15, 30, []int{0, 3}},
		{20, 40, []int{3, 4}}, {24, 40, []int{3, 4}}, {25, 40, []int{3, 5}}, {25, 50, []int{3, 5, 6}}, {25, 60, []int{3, 5, 6}}, {14, 60, []int{0, 6}}, {0, 50, []int{6}}, {api.MaxDay, api.MaxDay, []int{3, 5, 6}}, {0, 0, nil},
	} {
		if l, err := rules.InForce(c, x.day, x.known); !slices.Equal(l, x.want) || err != api.OK {
			t.Error(x, l, err)
		}
	}
	for _, x := range []struct {
		day, before, after int
		want               []int
	}{
		{25, 10, 30, []int{5, 6}}, {25, 30, 10, []int{5, 6}}, {25, 30, 40, []int{5}}, {25, 40, 50, []int{3}}, {25, 50, 60, nil}, {25, 0, 100, []int{3, 5, 6}}, {9, 0, 49, nil}, {9, 49, 50, []int{3}}, {20, 20, 40, []int{5, 6}}, {25, 20, 40, []int{5, 6}}, {10, 10, 10, nil}, {10, 9, 10, []int{5}}, {25, 29, 30, []int{5, 6}}, {14, 20, 40, nil},
	} {
		if l, err := rules.Changed(c, x.day, x.before, x.after); !slices.Equal(l, x.want) || err != api.OK {
			t.Error(x, l, err)
		}
	}
	zero := code(t, rule(0, 5, 10, 10, "a.no = 1")) // the rule 0 in force is not the same as none
	if l, err := rules.Changed(zero, 10, 9, 10); !slices.Equal(l, []int{5}) || err != api.OK {
		t.Error(l, err)
	}
}

// P3.4, P3.5: the rules in force, the names that changed, and what the rules say, of many codes; P3.11: what was known then does not change by later rules.
func TestCodes(t *testing.T) {
	x := noise(14)
	said, changes := 0, 0
	for range 60 {
		c := aCode(t, &x, x.from(0, 14))
		a, b := aFind(&x), aFind(&x)
		for range 30 {
			day, known, other := x.below(9), x.below(9), x.below(9)
			want := inForce(c, day, known)
			if l, err := rules.InForce(c, day, known); !slices.Equal(l, want) || err != api.OK {
				t.Fatal(c, day, known, l, err)
			}
			if l, err := rules.Changed(c, day, known, other); !slices.Equal(l, changed(c, day, known, other)) || err != api.OK {
				t.Fatal(c, day, known, other, l, err)
			} else {
				changes += len(l)
			}
			l, err := rules.Says(c, a, b, day, known)
			if !slices.Equal(l, holding(t, c, a, b, want)) || err != api.OK {
				t.Fatal(c, a, b, l, err)
			}
			said += len(l)
			later := c
			for range 2 {
				known := max(known+1, 0)
				if n := len(later.Rules); n > 0 {
					known = max(known, later.Rules[n-1].Known)
				}
				later, err = rules.Add(later, rule(len(later.Rules), x.below(4), known, x.below(9), "1 = 1"))
				if err != api.OK {
					t.Fatal(err)
				}
			}
			if l, err := rules.InForce(later, day, known); !slices.Equal(l, want) || err != api.OK {
				t.Fatal(later, day, known, l, err)
			}
			if r, err := rules.Says(later, a, b, day, known); !slices.Equal(l, r) || err != api.OK {
				t.Fatal(later, day, known, r, err)
			}
		}
	}
	if said < 500 || changes < 500 {
		t.Error(said, changes)
	}
}

// changed returns the names for which other rules are in force.
func changed(c api.Code, day, before, after int) []int {
	first, second := inForce(c, day, before), inForce(c, day, after)
	var names []int
	for name := range 4096 {
		named := func(l []int) []int {
			return slices.DeleteFunc(slices.Clone(l), func(no int) bool { return c.Rules[no].Name != name })
		}
		if !slices.Equal(named(first), named(second)) {
			names = append(names, name)
		}
	}
	return names
}

// holding returns those of the rules that hold of two finds.
func holding(t testing.TB, c api.Code, a, b api.Find, l []int) []int {
	t.Helper()
	var held []int
	for _, no := range l {
		e := parse(t, c.Rules[no].Text)
		is, _, err := rules.Eval(e, a, b)
		also, _, err2 := rules.Eval(e, b, a)
		if err != api.OK || err2 != api.OK {
			t.Fatal(err, err2)
		}
		if is || also {
			held = append(held, no)
		}
	}
	return held
}

// P3.5: Says, in both orders of the finds, and only what is surely true.
func TestSays(t *testing.T) {
	c := code(t, rule(0, 1, 0, 0, "a.no = 1 and b.no = 2"), rule(1, 2, 0, 0, "a.no = 2 and b.no = 1"), rule(2, 3, 0, 0, "a.no = 2 and b.no = 2"), rule(3, 4, 0, 0, "a.side = b.side"), rule(4, 5, 0, 0, "a.m4 = 1"), rule(5, 6, 0, 0, "a.age < b.age"), rule(6, 7, 0, 0, "b.age < a.age"), rule(7, 8, 0, 5, "1 = 1"), rule(8, 9, 1, 0, "1 = 1"))
	for _, x := range []struct {
		a, b api.Find
		want []int
	}{{left(), either(), []int{0, 1, 5, 6}}, {either(), left(), []int{0, 1, 5, 6}}, {left(), left(), []int{3}}, {either(), either(), []int{2}}} {
		if l, err := rules.Says(c, x.a, x.b, 4, 0); !slices.Equal(l, x.want) || err != api.OK {
			t.Error(l, err)
		}
		if l, err := rules.Says(c, x.a, x.b, 5, 1); !slices.Equal(l, append(slices.Clone(x.want), 7, 8)) || err != api.OK {
			t.Error(l, err)
		}
	}
	if l, err := rules.Says(api.Code{}, left(), left(), 0, 0); len(l) != 0 || err != api.OK {
		t.Error(l, err)
	}
}

// P3.11: Says does not depend on the order of its finds; sharper finds have all ties that the finds have.
func TestSaysOfSharper(t *testing.T) {
	x := noise(15)
	kept := 0
	for range 300 {
		c := aCode(t, &x, x.from(1, 12))
		l := []api.Find{aFind(&x), aFind(&x), aFind(&x)}
		var sharp []api.Find
		for _, f := range l {
			sharp = append(sharp, aSharper(&x, f, x.below(3) == 0))
		}
		first, err := rules.Says(c, l[0], l[1], 8, 20)
		second, err2 := rules.Says(c, l[1], l[0], 8, 20)
		if !slices.Equal(first, second) || err != api.OK || err2 != api.OK {
			t.Fatal(c, l, first, second, err, err2)
		}
		ties, err := rules.Ties(c, l, 8, 20)
		more, err2 := rules.Ties(c, sharp, 8, 20)
		if err != api.OK || err2 != api.OK {
			t.Fatal(err, err2)
		}
		for _, tie := range ties {
			if !slices.Contains(more, tie) {
				t.Fatal(c, l, sharp, tie)
			}
			kept++
		}
		for i, f := range l { // no tie but of what Says says
			for j := i + 1; j < len(l); j++ {
				said, _ := rules.Says(c, f, l[j], 8, 20)
				for _, no := range said {
					r := c.Rules[no]
					if len(ties) == 0 || ties[0] != (api.Tie{A: i, B: j, Kind: r.Effect, Strength: r.Strength, Source: r.Name}) {
						t.Fatal(c, l, ties, no)
					}
					ties = ties[1:]
				}
			}
		}
		if len(ties) > 0 {
			t.Fatal(c, l, ties)
		}
	}
	if kept < 300 {
		t.Error(kept)
	}
}

// P3.5: Ties, and how many there can be.
func TestTies(t *testing.T) {
	together := rule(1, 9, 0, 0, "not a.no = b.no")
	together.Effect, together.Strength = api.TogetherF, 100
	c := code(t, rule(0, 5, 0, 0, "a.element = b.element"), together, rule(2, 3, 0, 0, "a.no = 1 and b.no = 2"))
	l := []api.Find{either(), left(), either()}
	want := []api.Tie{
		{A: 0, B: 1, Kind: api.ApartT, Strength: 50, Source: 5}, {A: 0, B: 1, Kind: api.TogetherT, Strength: 100, Source: 9}, {A: 0, B: 1, Kind: api.ApartT, Strength: 50, Source: 3},
		{A: 0, B: 2, Kind: api.ApartT, Strength: 50, Source: 5},
		{A: 1, B: 2, Kind: api.ApartT, Strength: 50, Source: 5}, {A: 1, B: 2, Kind: api.TogetherT, Strength: 100, Source: 9}, {A: 1, B: 2, Kind: api.ApartT, Strength: 50, Source: 3},
	}
	if ties, err := rules.Ties(c, l, 0, 0); !slices.Equal(ties, want) || err != api.OK {
		t.Error(ties, err)
	}
	for _, l := range [][]api.Find{nil, {}, {left()}} {
		if ties, err := rules.Ties(c, l, 0, 0); len(ties) != 0 || err != api.OK {
			t.Error(ties, err)
		}
	}
	many := func(count int) []api.Find {
		var l []api.Find
		for no := range count {
			f := left()
			f.No = no
			l = append(l, f)
		}
		return l
	}
	one := code(t, rule(0, 5, 0, 0, "1 = 1"))
	if ties, err := rules.Ties(one, many(32), 0, 0); len(ties) != 496 || err != api.OK {
		t.Error(len(ties), err)
	}
	full := code(t, rule(0, 5, 0, 0, "1 = 1"), rule(1, 6, 0, 0, "a.no = 31 and b.no < 16"))
	if ties, err := rules.Ties(full, many(32), 0, 0); len(ties) != 512 || err != api.OK {
		t.Error(len(ties), err)
	}
	more := code(t, rule(0, 5, 0, 0, "1 = 1"), rule(1, 6, 0, 0, "a.no = 31 and b.no < 17"))
	if ties, err := rules.Ties(more, many(32), 0, 0); len(ties) != 0 || err != api.ErrLimit {
		t.Error(len(ties), err)
	}
	most := many(32)
	for i := range most {
		most[i].No = 7
	}
	if ties, err := rules.Ties(one, most, 0, 0); len(ties) != 496 || err != api.OK {
		t.Error(len(ties), err)
	}
}

// P3.4, P3.5: the order of the errors of what is asked of codes.
func TestErrorsOfCodes(t *testing.T) {
	ok := aHistory(t)
	wrong := api.Code{Rules: []api.Rule{rule(1, 5, 20, 0, "1 = 1")}}
	long := api.Code{Rules: make([]api.Rule, 33)}
	many := make([]api.Find, 33)
	for i, x := range []struct {
		c           api.Code
		a, b        api.Find
		day, known  int
		want, finds api.Errno // without finds, and with them
	}{
		{ok, left(), either(), 0, 0, api.OK, api.OK}, {ok, left(), either(), api.MaxDay, api.MaxDay, api.OK, api.OK},
		{ok, left(), either(), -1, 0, api.ErrArg, api.ErrArg}, {ok, left(), either(), 0, -1, api.ErrArg, api.ErrArg}, {ok, left(), either(), api.MaxDay + 1, 0, api.ErrArg, api.ErrArg}, {ok, left(), either(), 0, api.MaxDay + 1, api.ErrArg, api.ErrArg}, {ok, left(), either(), math.MinInt, math.MaxInt, api.ErrArg, api.ErrArg},
		{ok, bad(), either(), -1, 0, api.ErrArg, api.ErrFind}, {ok, left(), bad(), 0, -1, api.ErrArg, api.ErrFind}, {ok, bad(), bad(), 0, 0, api.OK, api.ErrFind}, {ok, left(), bad(), 0, 0, api.OK, api.ErrFind},
		{wrong, bad(), bad(), -1, -1, api.ErrOrder, api.ErrOrder}, {long, bad(), bad(), -1, -1, api.ErrLimit, api.ErrLimit}, {api.Code{Rules: long.Rules[:1]}, bad(), left(), 0, -1, api.ErrRule, api.ErrRule},
	} {
		l, err := rules.InForce(x.c, x.day, x.known)
		if err != x.want || err != api.OK && len(l) != 0 {
			t.Error(i, l, err)
		}
		for _, days := range [][3]int{{x.day, x.known, 0}, {x.day, 0, x.known}, {0, x.day, x.known}} {
			l, err := rules.Changed(x.c, days[0], days[1], days[2])
			if err != x.want || err != api.OK && len(l) != 0 {
				t.Error(i, l, err)
			}
		}
		l, err = rules.Says(x.c, x.a, x.b, x.day, x.known)
		if err != x.finds || err != api.OK && len(l) != 0 {
			t.Error(i, l, err)
		}
		ties, err := rules.Ties(x.c, []api.Find{x.a, x.b}, x.day, x.known)
		if err != x.finds || err != api.OK && len(ties) != 0 {
			t.Error(i, ties, err)
		}
		want := rules.CheckCode(x.c)
		if want == api.OK {
			want = api.ErrLimit
		}
		if ties, err := rules.Ties(x.c, many, x.day, x.known); err != want || len(ties) != 0 {
			t.Error(i, ties, err)
		}
	}
	if ties, err := rules.Ties(ok, []api.Find{bad()}, 0, 0); err != api.ErrFind || len(ties) != 0 {
		t.Error(ties, err)
	}
	if ties, err := rules.Ties(ok, nil, 0, -1); err != api.ErrArg || len(ties) != 0 {
		t.Error(ties, err)
	}
}
