package finds_test

import (
	"math"
	"testing"

	"bonehouse/api"
	"bonehouse/finds"
)

// P2.1: what is a find, at both ends of each range.
func TestFinds(t *testing.T) {
	zero := api.Find{Zones: api.Set{1}}
	most := api.Find{No: 4095, Element: 31, Side: api.EitherS, Zones: api.Set{1<<16 - 1}, Age: api.Span{Lo: 120, Hi: 120}, Sex: api.MaleX, Wear: 7, Layer: 255, Square: 255}
	for kind := 8; kind < 16; kind++ {
		most.Measures = append(most.Measures, api.Measure{Kind: kind, Value: 100000, Error: 1000})
	}
	empty := zero
	empty.Measures = []api.Measure{}
	negative := zero // its span begins below 0
	negative.Measures = []api.Measure{{Error: 1000}}
	for i, f := range []api.Find{zero, most, empty, negative, first(), second()} {
		if err := finds.CheckFind(f); err != api.OK {
			t.Error(i, err)
		}
	}
	for element := -1; element <= 32; element++ {
		for side := -1; side <= 4; side++ {
			f := zero
			f.Element, f.Side = element, side
			want := element >= 0 && element <= 9 && side == 0 || element >= 10 && element <= 31 && side >= 1 && side <= 3
			if err := finds.CheckFind(f); (err == api.OK) != want || !want && err != api.ErrFind {
				t.Error(element, side, err)
			}
		}
	}
}

// P2.1: what is none.
func TestNoFinds(t *testing.T) {
	for _, n := range []int{-1, math.MinInt, math.MaxInt, 100001} {
		for i, change := range []func(f *api.Find){
			func(f *api.Find) { f.No = n }, func(f *api.Find) { f.Element = n }, func(f *api.Find) { f.Side = n },
			func(f *api.Find) { f.Sex = n }, func(f *api.Find) { f.Wear = n }, func(f *api.Find) { f.Layer = n }, func(f *api.Find) { f.Square = n },
			func(f *api.Find) { f.Age.Hi = n }, func(f *api.Find) { f.Age.Lo = n },
			func(f *api.Find) { f.Measures[0].Kind = n }, func(f *api.Find) { f.Measures[0].Value = n }, func(f *api.Find) { f.Measures[0].Error = n },
		} {
			f := first()
			change(&f)
			if err := finds.CheckFind(f); err != api.ErrFind {
				t.Error(n, i, err)
			}
		}
	}
	for i, change := range []func(f *api.Find){
		func(f *api.Find) { f.No = 4096 }, func(f *api.Find) { f.Element = 32 }, func(f *api.Find) { f.Sex = 5 },
		func(f *api.Find) { f.Wear = 8 }, func(f *api.Find) { f.Layer = 256 }, func(f *api.Find) { f.Square = 256 },
		func(f *api.Find) { f.Age = api.Span{Lo: 41, Hi: 40} }, func(f *api.Find) { f.Age.Hi = 121 }, func(f *api.Find) { f.Age = api.Span{Lo: 121, Hi: 121} },
		func(f *api.Find) { f.Zones = api.Set{} }, func(f *api.Find) { f.Zones = api.Set{1 << 16} }, func(f *api.Find) { f.Zones[1] = 1 },
		func(f *api.Find) { f.Zones[3] = 1 << 63 }, func(f *api.Find) { f.Zones = api.Set{1 | 1<<63} },
		func(f *api.Find) { f.Measures[0].Kind = 16 }, func(f *api.Find) { f.Measures[0].Error = 1001 },
		func(f *api.Find) { f.Measures = append(f.Measures, api.Measure{Kind: 5}) }, func(f *api.Find) { f.Measures = append(f.Measures, api.Measure{Kind: 4}) },
		func(f *api.Find) { f.Measures = append(f.Measures, api.Measure{Kind: 6, Value: -1}) },
		func(f *api.Find) {
			f.Measures = nil
			for kind := range 9 {
				f.Measures = append(f.Measures, api.Measure{Kind: kind})
			}
		},
		func(f *api.Find) { f.Measures = make([]api.Measure, 100000) },
	} {
		f := first()
		change(&f)
		if err := finds.CheckFind(f); err != api.ErrFind {
			t.Error(i, err)
		}
	}
}

// events returns a well-formed event of each kind.
func events() []api.Event {
	return []api.Event{enter(3, first()), join(3, 1, 2, 9), split(3, 9), measure(3, 1, api.Measure{Kind: 3, Value: 7}), date(3, 1, 20, 30), assign(3, 1, first()), withdraw(3, 1)}
}

// P2.1: what is an event, at both ends of the ranges.
func TestEvents(t *testing.T) {
	for _, e := range events() {
		for _, no := range []int{0, 1, 4095} {
			for _, day := range []int{0, 1, api.MaxDay} {
				e.No, e.Known = no, day
				if err := finds.CheckEvent(e); err != api.OK {
					t.Error(e, err)
				}
			}
		}
	}
	zones := api.Find{Zones: api.Set{1 << 15}}
	for i, e := range []api.Event{
		enter(0, zones), join(0, 0, 4095, 0), join(0, 4095, 0, 4095), join(0, 1, 2, 1), split(0, 0), split(0, 4095), withdraw(0, 4095),
		measure(0, 0, api.Measure{}), measure(0, 4095, api.Measure{Kind: 15, Value: 100000, Error: 1000}), date(0, 0, 0, 0), date(0, 4095, 0, 120), assign(0, 0, zones),
		{Kind: api.SplitE, Data: api.Find{Measures: []api.Measure{}}}, {Kind: api.JoinE, Other: 1, Data: api.Find{Measures: []api.Measure{}}}, {Kind: api.DateE, Data: api.Find{Measures: []api.Measure{}}},
	} {
		if err := finds.CheckEvent(e); err != api.OK {
			t.Error(i, err)
		}
	}
}

// P2.1: numbers of events, days, finds and kinds that are out of range.
func TestNoEvents(t *testing.T) {
	for _, e := range events() {
		for _, n := range []int{-1, math.MinInt, math.MaxInt, api.MaxDay + 1, 4096} {
			for i, change := range []func(e *api.Event){
				func(e *api.Event) { e.No = n }, func(e *api.Event) { e.Find = n }, func(e *api.Event) { e.Other = n }, func(e *api.Event) { e.Kind = n }, func(e *api.Event) { e.Data.No = n },
				func(e *api.Event) {
					if e.Known = n; n == 4096 {
						e.Known = -1
					}
				},
			} {
				x := e
				change(&x)
				if err := finds.CheckEvent(x); err != api.ErrEvent {
					t.Error(e, n, i, err)
				}
			}
		}
		e.Kind = 0
		if err := finds.CheckEvent(e); err != api.ErrEvent {
			t.Error(e, err)
		}
		e.Kind = 8
		if err := finds.CheckEvent(e); err != api.ErrEvent {
			t.Error(e, err)
		}
	}
	bad := first()
	bad.Wear = 8
	other := enter(0, first())
	other.Find = 2
	for i, e := range []api.Event{
		{}, enter(0, bad), other, enter(0, api.Find{}), join(0, 1, 1, 9), join(0, 4096, 1, 9),
		measure(0, 1, api.Measure{Kind: 16}), measure(0, 1, api.Measure{Error: -1}), {Kind: api.MeasureE}, {Kind: api.MeasureE, Data: api.Find{Measures: []api.Measure{{Kind: 1}, {Kind: 2}}}},
		date(0, 1, 2, 1), date(0, 1, -1, 1), date(0, 1, 0, 121),
		assign(0, 1, api.Find{}), assign(0, 1, bad), assign(0, 1, api.Find{Element: 9, Side: 1, Zones: api.Set{1}}), assign(0, 1, api.Find{Element: 10, Zones: api.Set{1}}),
		assign(0, 1, api.Find{Zones: api.Set{1 << 16}}), assign(0, 1, api.Find{Zones: api.Set{1}, Sex: 5}), assign(0, 1, api.Find{Element: 32, Side: 1, Zones: api.Set{1}}),
	} {
		if err := finds.CheckEvent(e); err != api.ErrEvent {
			t.Error(i, err)
		}
	}
}

// P2.1: what an event of a kind does not say has to be zero. The table has the fields that a kind says.
func TestNothingElse(t *testing.T) {
	said := [][]int{nil, {0, 2, 3, 4, 5, 6, 7, 8, 9, 10}, {0, 1}, nil, {4}, {5}, {2, 3, 6, 7, 8}, nil}
	changes := []func(e *api.Event){
		func(e *api.Event) { e.Data.No = 1 }, func(e *api.Event) { e.Other = 7 }, func(e *api.Event) { e.Data.Element = 14 }, func(e *api.Event) { e.Data.Side = api.RightS },
		func(e *api.Event) { e.Data.Measures = []api.Measure{{}} }, func(e *api.Event) { e.Data.Age = api.Span{Lo: 0, Hi: 1} },
		func(e *api.Event) { e.Data.Zones = api.Set{2} }, func(e *api.Event) { e.Data.Sex = 1 }, func(e *api.Event) { e.Data.Wear = 2 },
		func(e *api.Event) { e.Data.Layer = 1 }, func(e *api.Event) { e.Data.Square = 1 },
		func(e *api.Event) { e.Data.Zones[3] = 1 }, func(e *api.Event) { e.Data.Measures = make([]api.Measure, 20) }, func(e *api.Event) { e.Data.Age.Lo = 50 }, func(e *api.Event) { e.Other = -1 },
	}
	for _, e := range events() {
		for i, change := range changes {
			x := e
			change(&x)
			want := api.ErrEvent
			for _, field := range said[e.Kind] {
				if field == i {
					want = api.OK
				}
			}
			if err := finds.CheckEvent(x); err != want {
				t.Error(e.Kind, i, err)
			}
		}
	}
}
