package finds_test

import (
	"slices"
	"testing"

	"bonehouse/api"
	"bonehouse/finds"
)

// noise is a row of numbers that is the same in each run.
type noise uint64

func (x *noise) next() uint64 {
	*x += 0x9e3779b97f4a7c15
	z := uint64(*x)
	z = (z ^ z>>30) * 0xbf58476d1ce4e5b9
	z = (z ^ z>>27) * 0x94d049bb133111eb
	return z ^ z>>31
}

// below returns a number from 0 to n - 1.
func (x *noise) below(n int) int { return int(x.next() % uint64(n)) }

// one returns one of the numbers.
func (x *noise) one(l ...int) int { return l[x.below(len(l))] }

// first is the find a of the chapter's examples.
func first() api.Find {
	return api.Find{No: 1, Element: 12, Side: api.LeftS, Zones: api.Set{3}, Measures: []api.Measure{{Kind: 5, Value: 100, Error: 4}}, Age: api.Span{Lo: 20, Hi: 40}, Sex: api.MaybeFemaleX, Wear: 1, Layer: 2, Square: 3}
}

// second is the find b of the chapter's examples.
func second() api.Find {
	return api.Find{No: 2, Element: 12, Side: api.EitherS, Zones: api.Set{4}, Measures: []api.Measure{{Kind: 5, Value: 103, Error: 2}}, Age: api.Span{Lo: 30, Hi: 60}, Wear: 3, Layer: 4, Square: 5}
}

// same reports whether two finds are equal.
func same(a, b api.Find) bool {
	return slices.Equal(a.Measures, b.Measures) && a.No == b.No && a.Element == b.Element && a.Side == b.Side && a.Zones == b.Zones && a.Age == b.Age && a.Sex == b.Sex && a.Wear == b.Wear && a.Layer == b.Layer && a.Square == b.Square
}

// sameEvent reports whether two events are equal.
func sameEvent(a, b api.Event) bool {
	return a.No == b.No && a.Known == b.Known && a.Kind == b.Kind && a.Find == b.Find && a.Other == b.Other && same(a.Data, b.Data)
}

// none reports whether f is the zero value.
func none(f api.Find) bool { return same(f, api.Find{}) }

// numbers returns the numbers of finds.
func numbers(l []api.Find) []int {
	var out []int
	for _, f := range l {
		out = append(out, f.No)
	}
	return out
}

// register returns the register of events, which are numbered.
func register(t testing.TB, l ...api.Event) api.Register {
	t.Helper()
	var r api.Register
	for i, e := range l {
		e.No = i
		next, err := finds.Enter(r, e)
		if err != api.OK {
			t.Fatal(i, e, err)
		}
		r = next
	}
	return r
}

// enter, join, split, measure, date, assign and withdraw return events without a No.

func enter(known int, f api.Find) api.Event {
	return api.Event{Known: known, Kind: api.EnterE, Find: f.No, Data: f}
}

func join(known, a, b, made int) api.Event {
	return api.Event{Known: known, Kind: api.JoinE, Find: a, Other: b, Data: api.Find{No: made}}
}

func split(known, no int) api.Event { return api.Event{Known: known, Kind: api.SplitE, Find: no} }

func measure(known, no int, m api.Measure) api.Event {
	return api.Event{Known: known, Kind: api.MeasureE, Find: no, Data: api.Find{Measures: []api.Measure{m}}}
}

func date(known, no, lo, hi int) api.Event {
	return api.Event{Known: known, Kind: api.DateE, Find: no, Data: api.Find{Age: api.Span{Lo: lo, Hi: hi}}}
}

func assign(known, no int, f api.Find) api.Event {
	return api.Event{Known: known, Kind: api.AssignE, Find: no, Data: api.Find{Element: f.Element, Side: f.Side, Zones: f.Zones, Sex: f.Sex, Wear: f.Wear}}
}

func withdraw(known, no int) api.Event {
	return api.Event{Known: known, Kind: api.WithdrawE, Find: no}
}

// small returns a find with the number no: thin, without measurements, with the zone alone.
func small(no, zone int) api.Find {
	return api.Find{No: no, Element: 12, Side: api.LeftS, Zones: api.Set{1 << zone}, Age: api.Span{Lo: 0, Hi: 120}}
}

// history returns the register of the chapter's examples.
func history(t testing.TB) api.Register {
	t.Helper()
	return register(t, enter(10, first()), enter(10, second()), join(20, 1, 2, 9), split(30, 9))
}

// What follows is the chapter's meaning of a register, read off the events one question at a time, without a state that goes along.

// made returns the place of the join that made a find, or -1.
func made(l []api.Event, no int) int {
	return slices.IndexFunc(l, func(e api.Event) bool { return e.Kind == api.JoinE && e.Data.No == no })
}

// entered returns the place of the event that entered a find, or -1.
func entered(l []api.Event, no int) int {
	return slices.IndexFunc(l, func(e api.Event) bool { return e.Kind == api.EnterE && e.Find == no })
}

// isThere reports whether a find is there behind the events.
func isThere(l []api.Event, no int) bool { return made(l, no) >= 0 || entered(l, no) >= 0 }

// stands reports whether a find stands behind the events.
func stands(l []api.Event, no int) bool {
	for i := len(l) - 1; i >= 0; i-- {
		switch e := l[i]; e.Kind {
		case api.EnterE:
			if e.Find == no {
				return true
			}
		case api.JoinE:
			if e.Data.No == no {
				return true
			}
			if e.Find == no || e.Other == no {
				return false
			}
		case api.SplitE:
			if e.Find == no {
				return false
			}
			if j := l[made(l, e.Find)]; j.Find == no || j.Other == no {
				return true
			}
		case api.WithdrawE:
			if e.Find == no {
				return false
			}
		}
	}
	return false
}

// state returns what is known of a find that is there behind the events.
func state(l []api.Event, no int) api.Find {
	var f api.Find
	from := entered(l, no)
	if from >= 0 {
		f = l[from].Data
	} else {
		from = made(l, no)
		f, _ = become(state(l[:from], l[from].Find), state(l[:from], l[from].Other), no)
	}
	for _, e := range l[from+1:] {
		if e.Find != no {
			continue
		}
		switch e.Kind {
		case api.MeasureE:
			m := e.Data.Measures[0]
			others := slices.DeleteFunc(slices.Clone(f.Measures), func(x api.Measure) bool { return x.Kind == m.Kind })
			f.Measures = append(others, m)
			slices.SortFunc(f.Measures, func(a, b api.Measure) int { return a.Kind - b.Kind })
		case api.DateE:
			f.Age = e.Data.Age
		case api.AssignE:
			f.Element, f.Side, f.Zones, f.Sex, f.Wear = e.Data.Element, e.Data.Side, e.Data.Zones, e.Data.Sex, e.Data.Wear
		}
	}
	return f
}

// whole returns the whole of a find.
func whole(l []api.Event, no int) int {
	for i, e := range l {
		if e.Kind == api.JoinE && (e.Find == no || e.Other == no) {
			isSplit := func(x api.Event) bool { return x.Kind == api.SplitE && x.Find == e.Data.No }
			if !slices.ContainsFunc(l[i:], isSplit) {
				return whole(l, e.Data.No)
			}
		}
	}
	return no
}

// partsOf returns the numbers of all parts of a find.
func partsOf(l []api.Event, no int) []int {
	i := made(l, no)
	if i < 0 {
		return nil
	}
	a, b := l[i].Find, l[i].Other
	return slices.Concat([]int{a, b}, partsOf(l, a), partsOf(l, b))
}

// leaves returns the numbers of the parts of a find that were entered, or of itself.
func leaves(l []api.Event, no int) []int {
	var out []int
	for _, part := range append(partsOf(l, no), no) {
		if entered(l, part) >= 0 {
			out = append(out, part)
		}
	}
	slices.Sort(out)
	return out
}

// isAbout reports whether e is about a find.
func isAbout(e api.Event, no int) bool {
	return e.Find == no || e.Kind == api.JoinE && (e.Other == no || e.Data.No == no)
}

// touches reports whether the last event touches a find that is there.
func touches(l []api.Event, no int) bool {
	e := l[len(l)-1]
	if isAbout(e, no) {
		return true
	}
	if slices.ContainsFunc(partsOf(l, no), func(part int) bool { return isAbout(e, part) }) {
		return true
	}
	for other := range 60 { // the numbers that the tests use
		if isAbout(e, other) && slices.Contains(partsOf(l, other), no) {
			return true
		}
	}
	return false
}

// become returns what two finds become, and whether they can be joined.
func become(a, b api.Find, no int) (api.Find, bool) {
	f := api.Find{No: no, Element: a.Element, Side: a.Side, Age: api.Span{Lo: 999}, Wear: a.Wear, Layer: a.Layer, Square: a.Square}
	if a.Element != b.Element || a.Side != b.Side && a.Side != api.EitherS && b.Side != api.EitherS {
		return api.Find{}, false
	}
	if f.Side == api.EitherS {
		f.Side = b.Side
	}
	if b.Wear > a.Wear {
		f.Wear = b.Wear
	}
	for zone := range 16 {
		bit := uint64(1) << zone
		if a.Zones[0]&b.Zones[0]&bit != 0 {
			return api.Find{}, false
		}
		f.Zones[0] |= (a.Zones[0] | b.Zones[0]) & bit
	}
	for n := range 121 {
		if a.Age.Lo <= n && n <= a.Age.Hi && b.Age.Lo <= n && n <= b.Age.Hi {
			f.Age = api.Span{Lo: min(f.Age.Lo, n), Hi: n}
		}
	}
	for kind := range 16 {
		m, is := becomeMeasure(a, b, kind)
		if !is {
			return api.Find{}, false
		}
		f.Measures = append(f.Measures, m...)
	}
	// By rows a and columns b: unknown, female, maybe female, maybe male, male.
	f.Sex = [5][5]int{{0, 1, 2, 3, 4}, {1, 1, 1, 0, 0}, {2, 1, 2, 0, 0}, {3, 0, 0, 3, 4}, {4, 0, 0, 4, 4}}[a.Sex][b.Sex]
	return f, f.Age.Lo < 999 && len(f.Measures) <= 8
}

// becomeMeasure returns the measurement of a kind of what two finds become, if it has one, and whether they agree.
func becomeMeasure(a, b api.Find, kind int) ([]api.Measure, bool) {
	var l []api.Measure
	for _, m := range slices.Concat(a.Measures, b.Measures) {
		if m.Kind == kind {
			l = append(l, m)
		}
	}
	if len(l) < 2 {
		return l, true
	}
	lo := max(l[0].Value-l[0].Error, l[1].Value-l[1].Error)
	hi := min(l[0].Value+l[0].Error, l[1].Value+l[1].Error)
	for half := 0; half <= 1000; half++ {
		if hi >= lo && lo+2*half >= hi { // the first one is half of it, rounded up
			return []api.Measure{{Kind: kind, Value: lo + half, Error: half}}, true
		}
	}
	return nil, false
}

// continues reports whether a well-formed event continues others.
func continues(l []api.Event, e api.Event) bool {
	if e.No != len(l) || len(l) > 0 && e.Known < l[len(l)-1].Known {
		return false
	}
	switch e.Kind {
	case api.EnterE:
		return !isThere(l, e.Find)
	case api.JoinE:
		if !stands(l, e.Find) || !stands(l, e.Other) || isThere(l, e.Data.No) {
			return false
		}
		_, is := become(state(l, e.Find), state(l, e.Other), e.Data.No)
		return is
	case api.SplitE:
		return stands(l, e.Find) && made(l, e.Find) >= 0
	case api.MeasureE:
		if !stands(l, e.Find) {
			return false
		}
		f := state(l, e.Find)
		return len(f.Measures) < 8 || slices.ContainsFunc(f.Measures, func(m api.Measure) bool { return m.Kind == e.Data.Measures[0].Kind })
	}
	return stands(l, e.Find)
}

// known returns the events that are known on a day.
func known(r api.Register, day int) []api.Event {
	var l []api.Event
	for _, e := range r.Events {
		if e.Known <= day {
			l = append(l, e)
		}
	}
	return l
}

// aFind returns a valid find with the number no. Many of them can be joined.
func aFind(x *noise, no int) api.Find {
	f := api.Find{No: no, Element: x.one(3, 12, 12, 12), Sex: x.below(5), Wear: x.below(8), Layer: x.below(256), Square: x.below(256)}
	if f.Element >= 10 {
		f.Side = x.one(api.LeftS, api.LeftS, api.LeftS, api.RightS, api.EitherS, api.EitherS)
	}
	for range 1 + x.below(3) {
		f.Zones[0] |= 1 << x.below(16)
	}
	f.Age = api.Span{Lo: x.below(30), Hi: 30 + x.below(91)}
	for kind := x.below(5); kind < 16 && len(f.Measures) < x.one(0, 1, 2, 4, 8); kind += 1 + x.below(4) {
		f.Measures = append(f.Measures, aMeasure(x, kind))
	}
	return f
}

// aMeasure returns a measurement of a kind. Most of them agree.
func aMeasure(x *noise, kind int) api.Measure {
	return api.Measure{Kind: kind, Value: x.below(20), Error: x.one(x.below(4), 10+x.below(30), 10+x.below(30), 1000)}
}

// anEvent returns a well-formed event of one of the kinds, that continues the events more often than not.
func anEvent(x *noise, l []api.Event, kinds ...int) api.Event {
	var there []int
	for no := range 40 {
		if stands(l, no) || x.below(30) == 0 {
			there = append(there, no)
		}
	}
	there = append(there, x.below(40))
	e := api.Event{No: len(l), Kind: x.one(kinds...), Find: x.one(there...)}
	if len(l) > 0 {
		e.Known = l[len(l)-1].Known + x.one(0, 0, 1, 3)
	}
	switch e.Kind {
	case api.EnterE:
		e.Find = x.below(40)
		e.Data = aFind(x, e.Find)
	case api.JoinE:
		e.Other, e.Data.No = x.one(there...), x.below(40)
		if e.Other == e.Find {
			e.Other = 40 + x.below(9)
		}
	case api.MeasureE:
		e.Data.Measures = []api.Measure{aMeasure(x, x.below(16))}
	case api.DateE:
		e.Data.Age = aFind(x, 0).Age
	case api.AssignE:
		e.Data = assign(0, 0, aFind(x, 0)).Data
	}
	return e
}

// allKinds has each kind of events, the more helpful ones more often.
func allKinds() []int {
	return []int{api.EnterE, api.EnterE, api.EnterE, api.JoinE, api.JoinE, api.JoinE, api.JoinE, api.JoinE, api.SplitE, api.SplitE, api.MeasureE, api.DateE, api.AssignE, api.WithdrawE}
}

// aRegister returns a valid register with count events of the kinds. It holds Enter against the model on the way.
func aRegister(t testing.TB, x *noise, count int, kinds ...int) api.Register {
	t.Helper()
	var r api.Register
	for range 20 * count {
		if len(r.Events) == count {
			return r
		}
		e := anEvent(x, r.Events, kinds...)
		next, err := finds.Enter(r, e)
		if want := continues(r.Events, e); want != (err == api.OK) || !want && (err != api.ErrOrder || len(next.Events) > 0) {
			t.Fatal(r, e, next, err)
		}
		if err == api.OK {
			r = next
		}
	}
	t.Fatal("too few events continue:", len(r.Events))
	return r
}

// registers returns the chapter's example, special cases, and further registers.
func registers(t testing.TB, kinds ...int) []api.Register {
	t.Helper()
	l := []api.Register{{}, history(t), twice(t)}
	x := noise(7)
	for i := range 8 {
		l = append(l, aRegister(t, &x, 10+5*i, kinds...))
	}
	return l
}

// twice returns a register in which the same finds are joined twice, once under another one that is split, and the last whole is withdrawn.
func twice(t testing.TB) api.Register {
	t.Helper()
	return register(t, enter(0, small(1, 1)), enter(0, small(2, 2)), enter(1, small(3, 3)),
		join(2, 1, 2, 4), date(3, 4, 10, 90), join(3, 3, 4, 5), measure(4, 5, api.Measure{Kind: 1, Value: 8}),
		split(5, 5), split(6, 4), date(7, 1, 20, 80), join(8, 2, 1, 6), withdraw(9, 6), withdraw(9, 3))
}

// days returns the days on which something becomes known, and those around them.
func days(r api.Register) []int {
	l := []int{0, api.MaxDay}
	for _, e := range r.Events {
		l = append(l, e.Known, max(e.Known-1, 0), min(e.Known+1, api.MaxDay))
	}
	slices.Sort(l)
	return slices.Compact(l)
}
