package finds_test

import (
	"math"
	"slices"
	"testing"

	"bonehouse/api"
	"bonehouse/finds"
)

// P2.2: each event ahead of which something is missing or in the way.
func TestOrder(t *testing.T) {
	r := history(t)
	if err := finds.Check(r); err != api.OK {
		t.Error(err)
	}
	if err := finds.Check(api.Register{}); err != api.OK {
		t.Error(err)
	}
	other := small(3, 5)
	other.Element = 13
	for i, x := range []struct {
		e   api.Event
		err api.Errno
	}{
		{enter(30, small(3, 3)), api.OK},
		{enter(30, small(1, 3)), api.ErrOrder}, {enter(30, small(9, 3)), api.ErrOrder}, // there, though the latter stands no more
		{enter(29, small(3, 3)), api.ErrOrder},
		{join(30, 1, 2, 8), api.OK}, {join(30, 2, 1, 8), api.OK},
		{join(30, 1, 2, 9), api.ErrOrder}, {join(30, 1, 2, 1), api.ErrOrder}, {join(30, 1, 2, 2), api.ErrOrder},
		{join(30, 1, 9, 8), api.ErrOrder}, {join(30, 9, 1, 8), api.ErrOrder}, {join(30, 1, 7, 8), api.ErrOrder}, {join(30, 7, 1, 8), api.ErrOrder},
		{join(30, 1, 1, 8), api.ErrEvent},
		{split(30, 9), api.ErrOrder}, {split(30, 1), api.ErrOrder}, {split(30, 7), api.ErrOrder},
		{measure(30, 1, api.Measure{}), api.OK}, {measure(30, 9, api.Measure{}), api.ErrOrder}, {measure(30, 0, api.Measure{}), api.ErrOrder},
		{date(30, 1, 1, 2), api.OK}, {date(30, 9, 1, 2), api.ErrOrder}, {date(30, 0, 1, 2), api.ErrOrder},
		{assign(30, 1, other), api.OK}, {assign(30, 9, other), api.ErrOrder}, {assign(30, 0, other), api.ErrOrder},
		{withdraw(30, 1), api.OK}, {withdraw(30, 9), api.ErrOrder}, {withdraw(30, 0), api.ErrOrder},
		{withdraw(api.MaxDay, 1), api.OK}, {withdraw(api.MaxDay+1, 1), api.ErrEvent}, {withdraw(0, 1), api.ErrOrder},
		{api.Event{}, api.ErrEvent},
	} {
		x.e.No = 4
		next, err := finds.Enter(r, x.e)
		if err != x.err || err != api.OK && len(next.Events) > 0 {
			t.Error(i, next, err)
		}
		longer := api.Register{Events: append(slices.Clone(r.Events), x.e)}
		if err := finds.Check(longer); err != x.err {
			t.Error(i, err)
		}
		if err == api.OK && !slices.EqualFunc(next.Events, longer.Events, sameEvent) {
			t.Error(i, next)
		}
	}
	for _, no := range []int{0, 3, 5} {
		if _, err := finds.Enter(r, api.Event{No: no, Known: 30, Kind: api.WithdrawE, Find: 1}); err != api.ErrOrder {
			t.Error(no, err)
		}
	}
}

// P2.2: finds that stand, but cannot be joined, and ones that can be since they were changed.
func TestOrderOfJoins(t *testing.T) {
	l := []api.Event{enter(0, small(1, 1)), enter(0, small(2, 1)), enter(0, small(3, 2)), date(0, 1, 0, 10), date(0, 3, 11, 20)}
	r := register(t, l...)
	for i, e := range []api.Event{join(0, 1, 2, 9), join(0, 1, 3, 9)} {
		e.No = 5
		if _, err := finds.Enter(r, e); err != api.ErrOrder {
			t.Error(i, err)
		}
	}
	register(t, append(l, join(0, 2, 3, 9))...)
	register(t, append(l, date(0, 3, 10, 20), join(0, 1, 3, 9))...)
	register(t, append(l, assign(0, 2, small(2, 3)), join(0, 1, 2, 9))...)
	// What does not stand is not joined, whichever of both it is.
	gone := []api.Event{enter(0, small(1, 1)), enter(0, small(2, 2)), enter(0, small(3, 3)), join(0, 1, 2, 4), enter(0, small(5, 5)), withdraw(0, 5)}
	r = register(t, gone...)
	for i, e := range []api.Event{join(0, 1, 3, 9), join(0, 3, 1, 9), join(0, 5, 3, 9), join(0, 3, 5, 9), join(0, 4, 5, 9), join(0, 5, 4, 9)} {
		e.No = len(gone)
		if _, err := finds.Enter(r, e); err != api.ErrOrder {
			t.Error(i, err)
		}
	}
	register(t, append(gone, join(0, 4, 3, 9))...)
	// What does not stand can neither be split nor withdrawn again.
	r = twice(t)
	for no := range 7 {
		for i, e := range []api.Event{split(9, no), withdraw(9, no)} {
			e.No = len(r.Events)
			want := api.ErrOrder
			if stands(r.Events, no) && (i == 1 || made(r.Events, no) >= 0) {
				want = api.OK
			}
			if _, err := finds.Enter(r, e); err != want {
				t.Error(no, i, err)
			}
		}
	}
}

// P2.2: a find has at most 8 measurements, also by a join.
func TestMeasurementsOfAFind(t *testing.T) {
	f, g := small(1, 1), small(2, 2)
	for kind := range 8 {
		f.Measures = append(f.Measures, api.Measure{Kind: 2 * kind, Value: 5})
	}
	g.Measures = []api.Measure{{Kind: 1}}
	l := []api.Event{enter(0, f), enter(0, g)}
	r := register(t, l...)
	for i, e := range []api.Event{measure(0, 1, api.Measure{Kind: 1}), measure(0, 1, api.Measure{Kind: 15}), join(0, 1, 2, 3), join(0, 2, 1, 3)} {
		e.No = 2
		if _, err := finds.Enter(r, e); err != api.ErrOrder {
			t.Error(i, err)
		}
	}
	r = register(t, append(l, measure(0, 1, api.Measure{Kind: 8, Value: 9, Error: 2}))...)
	f.Measures[4] = api.Measure{Kind: 8, Value: 9, Error: 2}
	if x, err := finds.At(r, 1, 0); !same(x, f) || err != api.OK {
		t.Error(x, err)
	}
	r = register(t, append(l, measure(0, 2, api.Measure{Kind: 9}), measure(0, 2, api.Measure{Kind: 0}), measure(0, 2, api.Measure{Kind: 4, Value: 3}))...)
	g.Measures = []api.Measure{{Kind: 0}, {Kind: 1}, {Kind: 4, Value: 3}, {Kind: 9}}
	if x, err := finds.At(r, 2, 0); !same(x, g) || err != api.OK {
		t.Error(x, err)
	}
}

// P2.2: which error of a register counts.
func TestFirstError(t *testing.T) {
	valid := history(t)
	for i, x := range []struct {
		change func(l []api.Event)
		err    api.Errno
	}{
		{func(l []api.Event) { l[1].No = 2 }, api.ErrOrder}, {func(l []api.Event) { l[0].No = 1 }, api.ErrOrder},
		{func(l []api.Event) { l[1].Known = 9 }, api.ErrOrder}, {func(l []api.Event) { l[2].Find = 3 }, api.ErrOrder},
		{func(l []api.Event) { l[1].Kind = 0 }, api.ErrEvent}, {func(l []api.Event) { l[1].No = -1 }, api.ErrEvent},
		{func(l []api.Event) { l[1].No, l[1].Kind = 2, 0 }, api.ErrEvent}, // the form of an event comes ahead of its order
		{func(l []api.Event) { l[1].No, l[2].Kind = 2, 0 }, api.ErrOrder}, // and events come one after the other
		{func(l []api.Event) { l[1].Kind, l[2].No = 0, 7 }, api.ErrEvent},
		{func(l []api.Event) { l[3].Data.No = 1 }, api.ErrEvent},
	} {
		l := slices.Clone(valid.Events)
		x.change(l)
		bad := api.Register{Events: l}
		if err := finds.Check(bad); err != x.err {
			t.Error(i, err)
		}
		for _, e := range []api.Event{{}, {No: 4, Known: 30, Kind: api.WithdrawE, Find: 1}} {
			if next, err := finds.Enter(bad, e); err != x.err || len(next.Events) > 0 {
				t.Error(i, next, err)
			}
		}
	}
}

// P2.2: a register has at most 256 events.
func TestFullRegister(t *testing.T) {
	var l []api.Event
	for i := range 256 {
		e := enter(0, small(i, 0))
		e.No = i
		l = append(l, e)
	}
	full := api.Register{Events: l}
	if err := finds.Check(full); err != api.OK {
		t.Error(err)
	}
	last := withdraw(0, 0)
	last.No = 256
	for _, e := range []api.Event{last, {}, {No: -1, Kind: 99}} {
		if next, err := finds.Enter(full, e); err != api.ErrLimit || len(next.Events) > 0 {
			t.Error(err)
		}
	}
	l[7].No = 8
	if _, err := finds.Enter(full, last); err != api.ErrOrder {
		t.Error(err)
	}
	l[7].No = 7
	if next, err := finds.Enter(api.Register{Events: l[:255]}, l[255]); err != api.OK || len(next.Events) != 256 {
		t.Error(err)
	}
	if f, err := finds.At(full, 255, 0); !same(f, small(255, 0)) || err != api.OK {
		t.Error(f, err)
	}
	for _, r := range []api.Register{{Events: append(l, last)}, {Events: make([]api.Event, 257)}, {Events: make([]api.Event, 5000)}} {
		if err := finds.Check(r); err != api.ErrLimit {
			t.Error(err)
		}
	}
}

// calls calls all functions that ask what is known of a find on a day, and tells whether the results are zero.
func calls(r api.Register, no, day int) (errs []api.Errno, zero bool) {
	f, e1 := finds.At(r, no, day)
	p, is, e2 := finds.Parts(r, no, day)
	w, e3 := finds.Whole(r, no, day)
	l, e4 := finds.Leaves(r, no, day)
	h, e5 := finds.History(r, no, day)
	return []api.Errno{e1, e2, e3, e4, e5}, none(f) && p == [2]int{} && !is && w == 0 && len(l) == 0 && len(h) == 0
}

// P2.3, P2.4, P2.5: what the functions that take a register do not take, and in which order they say so.
func TestErrorsOfCalls(t *testing.T) {
	valid := history(t)
	bad := api.Register{Events: slices.Clone(valid.Events)}
	bad.Events[2].No = 9
	long := api.Register{Events: make([]api.Event, 300)}
	for i, x := range []struct {
		r       api.Register
		no, day int
		want    api.Errno
	}{
		{bad, 1, 20, api.ErrOrder}, {bad, -1, 20, api.ErrOrder}, {bad, 1, -1, api.ErrOrder}, {bad, 77, 20, api.ErrOrder}, {bad, 1, 0, api.ErrOrder}, {long, -1, -1, api.ErrLimit},
		{valid, -1, 20, api.ErrArg}, {valid, 4096, 20, api.ErrArg}, {valid, math.MinInt, 20, api.ErrArg}, {valid, math.MaxInt, 20, api.ErrArg},
		{valid, 1, -1, api.ErrArg}, {valid, 1, api.MaxDay + 1, api.ErrArg}, {valid, 77, -1, api.ErrArg}, {valid, 1, math.MinInt, api.ErrArg}, {valid, 1, math.MaxInt, api.ErrArg},
		{valid, 0, 20, api.ErrNone}, {valid, 4095, api.MaxDay, api.ErrNone}, {valid, 9, 19, api.ErrNone}, {valid, 1, 9, api.ErrNone}, {api.Register{}, 0, 0, api.ErrNone},
	} {
		errs, zero := calls(x.r, x.no, x.day)
		for j, err := range errs {
			if err != x.want || !zero {
				t.Error(i, j, err, zero)
			}
		}
	}
	for i, x := range []struct {
		r    api.Register
		day  int
		want api.Errno
	}{{bad, 20, api.ErrOrder}, {bad, -1, api.ErrOrder}, {valid, -1, api.ErrArg}, {valid, api.MaxDay + 1, api.ErrArg}, {valid, math.MinInt, api.ErrArg}} {
		if l, err := finds.Standing(x.r, x.day); err != x.want || len(l) > 0 {
			t.Error(i, l, err)
		}
		if l, err := finds.Changed(x.r, x.day, 20); err != x.want || len(l) > 0 {
			t.Error(i, l, err)
		}
		if l, err := finds.Changed(x.r, 20, x.day); err != x.want || len(l) > 0 {
			t.Error(i, l, err)
		}
	}
	for _, event := range []int{-1, 4, math.MinInt, math.MaxInt} {
		if l, err := finds.Touched(valid, event); err != api.ErrArg || len(l) > 0 {
			t.Error(event, l, err)
		}
		if l, err := finds.Touched(bad, event); err != api.ErrOrder || len(l) > 0 {
			t.Error(event, l, err)
		}
	}
}

// P2.3: the chapter's example.
func TestStandingExample(t *testing.T) {
	r := history(t)
	for day, want := range map[int][]int{0: nil, 9: nil, 10: {1, 2}, 15: {1, 2}, 19: {1, 2}, 20: {9}, 29: {9}, 30: {1, 2}, api.MaxDay: {1, 2}} {
		if l, err := finds.Standing(r, day); err != api.OK || !slices.Equal(numbers(l), want) {
			t.Error(day, l, err)
		}
	}
	want := api.Find{No: 9, Element: 12, Side: api.LeftS, Zones: api.Set{7}, Measures: []api.Measure{{Kind: 5, Value: 103, Error: 2}}, Age: api.Span{Lo: 30, Hi: 40}, Sex: api.MaybeFemaleX, Wear: 3, Layer: 2, Square: 3}
	for _, day := range []int{20, 30, api.MaxDay} {
		if f, err := finds.At(r, 9, day); err != api.OK || !same(f, want) {
			t.Error(day, f, err)
		}
	}
	for _, day := range []int{10, 20, 30} {
		if f, err := finds.At(r, 2, day); err != api.OK || !same(f, second()) {
			t.Error(day, f, err)
		}
	}
}

// P2.3: each kind of event, and what it leaves as it was.
func TestStates(t *testing.T) {
	anew := api.Find{Element: 3, Side: api.MiddleS, Zones: api.Set{1 << 15}, Sex: api.MaleX, Wear: 7}
	r := register(t, enter(1, first()), measure(2, 1, api.Measure{Kind: 2, Value: 9, Error: 1}), measure(3, 1, api.Measure{Kind: 5, Value: 8}), date(4, 1, 0, 120), assign(5, 1, anew), withdraw(6, 1))
	want := first()
	for i, change := range []func(){
		func() {},
		func() { want.Measures = []api.Measure{{Kind: 2, Value: 9, Error: 1}, {Kind: 5, Value: 100, Error: 4}} },
		func() { want.Measures[1] = api.Measure{Kind: 5, Value: 8} },
		func() { want.Age = api.Span{Lo: 0, Hi: 120} },
		func() { want.Element, want.Side, want.Zones, want.Sex, want.Wear = 3, 0, api.Set{1 << 15}, 4, 7 },
		func() {},
	} {
		change()
		f, err := finds.At(r, 1, i+1)
		if err != api.OK || !same(f, want) {
			t.Error(i, f, err)
		}
		l, err := finds.Standing(r, i+1)
		if i < 5 && (len(l) != 1 || !same(l[0], want)) || i == 5 && len(l) > 0 || err != api.OK {
			t.Error(i, l, err)
		}
	}
}

// P2.3: At and Standing, by another way to get there.
func TestStatesOfRegisters(t *testing.T) {
	for i, r := range registers(t, allKinds()...) {
		for _, day := range days(r) {
			l := known(r, day)
			var want []int
			for no := range 50 {
				f, err := finds.At(r, no, day)
				if !isThere(l, no) {
					if err != api.ErrNone || !none(f) {
						t.Fatal(i, day, no, f, err)
					}
					continue
				}
				if err != api.OK || !same(f, state(l, no)) {
					t.Fatal(i, day, no, f, err)
				}
				if stands(l, no) {
					want = append(want, no)
				}
			}
			standing, err := finds.Standing(r, day)
			if err != api.OK || !slices.Equal(numbers(standing), want) {
				t.Fatal(i, day, standing, err)
			}
			for _, f := range standing {
				if !same(f, state(l, f.No)) {
					t.Fatal(i, day, f)
				}
			}
		}
	}
}

// P2.2, P2.3 (and R2): what is returned is new, what is handed in stays as it is.
func TestNewMemory(t *testing.T) {
	r := history(t)
	r.Events = slices.Grow(r.Events, 10)
	e := measure(40, 1, api.Measure{Kind: 6, Value: 1})
	e.No = 4
	a, err := finds.Enter(r, e)
	if err != api.OK {
		t.Fatal(err)
	}
	b, _ := finds.Enter(r, api.Event{No: 4, Known: 40, Kind: api.WithdrawE, Find: 2})
	e.Data.Measures[0].Value = 77
	r.Events[0].Data.Measures[0].Value = 777
	a.Events[1].Data.Measures[0].Value = 50
	if a.Events[4].Kind != api.MeasureE || a.Events[4].Data.Measures[0].Value != 1 || a.Events[0].Data.Measures[0].Value != 100 {
		t.Error(a)
	}
	if b.Events[4].Kind != api.WithdrawE || b.Events[0].Data.Measures[0].Value != 100 || b.Events[1].Data.Measures[0].Value != 103 || r.Events[1].Data.Measures[0].Value != 103 {
		t.Error(b, r)
	}
	r = history(t)
	f, _ := finds.At(r, 1, 40)
	f.Measures[0].Value = 5
	l, _ := finds.Standing(r, 40)
	l[0].Measures[0].Value = 6
	k := first()
	j, _ := finds.Joined(k, small(7, 9), 8)
	j.Measures[0].Value = 7
	if f, err := finds.At(r, 1, 40); !same(f, first()) || err != api.OK || !same(k, first()) {
		t.Error(f, err, k)
	}
}

// P2.9: a join and its split leave both finds as they were.
func TestJoinAndSplit(t *testing.T) {
	x := noise(9)
	count := 0
	for _, r := range registers(t, allKinds()...) {
		standing, _ := finds.Standing(r, api.MaxDay)
		for _, a := range standing {
			for _, b := range standing {
				e := join(api.MaxDay, a.No, b.No, 60)
				e.No = len(r.Events)
				joined, err := finds.Enter(r, e)
				if err != api.OK {
					continue
				}
				count++
				// What is found out of the whole meanwhile is not theirs.
				for range x.below(3) {
					e := anEvent(&x, joined.Events, api.MeasureE, api.DateE, api.AssignE)
					e.Find = 60
					if longer, err := finds.Enter(joined, e); err == api.OK {
						joined = longer
					}
				}
				e = split(api.MaxDay, 60)
				e.No = len(joined.Events)
				again, err := finds.Enter(joined, e)
				if err != api.OK {
					t.Fatal(err)
				}
				l, _ := finds.Standing(again, api.MaxDay)
				if !slices.EqualFunc(l, standing, same) {
					t.Fatal(standing, l)
				}
				for _, f := range []api.Find{a, b} {
					if x, err := finds.At(again, f.No, api.MaxDay); !same(x, f) || err != api.OK {
						t.Fatal(f, x, err)
					}
				}
			}
		}
	}
	if count < 10 {
		t.Error("too few joins:", count)
	}
}

// P2.11: what was known on a day stays when something is entered that is known later.
func TestKnownThen(t *testing.T) {
	for i, r := range registers(t, allKinds()...) {
		for count := range r.Events {
			shorter := api.Register{Events: r.Events[:count]}
			for _, day := range days(shorter) {
				if day >= r.Events[count].Known {
					continue
				}
				a, err1 := finds.Standing(shorter, day)
				b, err2 := finds.Standing(r, day)
				if !slices.EqualFunc(a, b, same) || err1 != api.OK || err2 != api.OK {
					t.Fatal(i, count, day, a, b)
				}
				for _, no := range []int{count % 40, r.Events[count].Find} {
					if !alike(shorter, r, no, day, day) {
						t.Fatal(i, count, day, no)
					}
				}
			}
		}
	}
}

// alike reports whether the calls tell the same of a find in one register on a day, and in another one on another day.
func alike(a, b api.Register, no, dayA, dayB int) bool {
	f1, e1 := finds.At(a, no, dayA)
	f2, e2 := finds.At(b, no, dayB)
	p1, is1, _ := finds.Parts(a, no, dayA)
	p2, is2, _ := finds.Parts(b, no, dayB)
	w1, _ := finds.Whole(a, no, dayA)
	w2, _ := finds.Whole(b, no, dayB)
	l1, _ := finds.Leaves(a, no, dayA)
	l2, _ := finds.Leaves(b, no, dayB)
	h1, _ := finds.History(a, no, dayA)
	h2, _ := finds.History(b, no, dayB)
	return e1 == e2 && same(f1, f2) && p1 == p2 && is1 == is2 && w1 == w2 && slices.Equal(l1, l2) && slices.Equal(h1, h2)
}
