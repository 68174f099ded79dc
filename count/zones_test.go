package count_test

import (
	"math"
	"slices"
	"testing"

	"bonehouse/api"
	"bonehouse/count"
)

// bone returns a find of the element 12 with zones, as bits.
func bone(side int, zones uint64) api.Find {
	return api.Find{Element: 12, Side: side, Zones: api.Set{zones}}
}

// middle returns a find of the element 3, which is not one of a pair.
func middle(zones uint64) api.Find { return api.Find{Element: 3, Zones: api.Set{zones}} }

// aFind returns a find of one of a few elements.
func aFind(x *noise) api.Find {
	f := middle(uint64(x.from(1, 15)))
	if x.below(4) > 0 {
		f = bone(x.from(api.LeftS, api.EitherS), uint64(x.from(1, 15)))
		f.Element -= x.below(2)
	}
	f.No, f.Age, f.Layer, f.Square = x.below(4096), api.Span{Lo: 20, Hi: 40}, x.below(256), x.below(256)
	f.Measures = []api.Measure{{Kind: 5, Value: x.below(1000), Error: 2}}
	return f
}

// someFinds returns so many finds.
func someFinds(x *noise, many int) []api.Find {
	var l []api.Find
	for range many {
		l = append(l, aFind(x))
	}
	return l
}

// clonedFinds returns a list of finds that shares no memory with l.
func clonedFinds(l []api.Find) []api.Find {
	l = slices.Clone(l)
	for i := range l {
		l[i].Measures = slices.Clone(l[i].Measures)
	}
	return l
}

// sameFinds reports whether two lists of finds are equal.
func sameFinds(l, m []api.Find) bool {
	return slices.EqualFunc(l, m, func(f, g api.Find) bool {
		return f.No == g.No && f.Element == g.Element && f.Side == g.Side && f.Zones == g.Zones && slices.Equal(f.Measures, g.Measures) && f.Age == g.Age && f.Sex == g.Sex && f.Wear == g.Wear && f.Layer == g.Layer && f.Square == g.Square
	})
}

// wrongFinds returns finds that are not valid.
func wrongFinds() []api.Find {
	good := bone(api.LeftS, 1)
	change := func(f func(*api.Find)) api.Find {
		x := good
		f(&x)
		return x
	}
	return []api.Find{
		{}, bone(api.MiddleS, 1), bone(4, 1), bone(-1, 1), bone(api.LeftS, 0), bone(api.LeftS, 1<<16), bone(api.LeftS, 1|1<<63), middle(0),
		{Element: 9, Side: api.LeftS, Zones: api.Set{1}}, {Element: 0, Side: api.EitherS, Zones: api.Set{1}}, {Element: 10, Zones: api.Set{1}}, {Element: 32, Side: api.LeftS, Zones: api.Set{1}}, {Element: -1, Zones: api.Set{1}}, {Element: math.MaxInt, Side: api.LeftS, Zones: api.Set{1}}, {Element: 12, Side: math.MinInt, Zones: api.Set{1}},
		{Element: 12, Side: api.LeftS, Zones: api.Set{1, 1}}, {Element: 12, Side: api.LeftS, Zones: api.Set{0, 0, 0, 1}},
		change(func(f *api.Find) { f.No = 4096 }), change(func(f *api.Find) { f.No = -1 }), change(func(f *api.Find) { f.Age = api.Span{Lo: 3, Hi: 2} }), change(func(f *api.Find) { f.Sex = 5 }), change(func(f *api.Find) { f.Wear = 8 }), change(func(f *api.Find) { f.Layer = 256 }), change(func(f *api.Find) { f.Square = -1 }), change(func(f *api.Find) { f.Measures = []api.Measure{{Kind: 16}} }),
	}
}

// P5.6: the chapter's example, elements with sides and without.
func TestRepeatExamples(t *testing.T) {
	l := []api.Find{bone(api.LeftS, 1), bone(api.LeftS, 3), bone(api.RightS, 1), bone(api.EitherS, 1), bone(api.EitherS, 1), middle(4), middle(4), {Element: 31, Side: api.RightS, Zones: api.Set{1 << 15}}, {Element: 0, Zones: api.Set{1<<15 | 1}}, {Element: 10, Side: api.EitherS, Zones: api.Set{2}}, {Element: 9, Zones: api.Set{2}}, {Element: 9, Zones: api.Set{2}}, {Element: 9, Zones: api.Set{2}}}
	for i, x := range []struct {
		element, zone, lo, hi int
		err                   api.Errno
	}{
		{12, 0, 3, 5, api.OK}, {12, 1, 1, 1, api.OK}, {12, 2, 0, 0, api.OK}, {3, 2, 2, 2, api.OK}, {3, 0, 0, 0, api.OK}, {13, 0, 0, 0, api.OK}, {31, 15, 1, 1, api.OK}, {0, 0, 1, 1, api.OK}, {0, 15, 1, 1, api.OK}, {10, 1, 1, 1, api.OK}, {9, 1, 3, 3, api.OK},
		{-1, 0, 0, 0, api.ErrArg}, {32, 0, 0, 0, api.ErrArg}, {12, -1, 0, 0, api.ErrArg}, {12, 16, 0, 0, api.ErrArg}, {math.MinInt, 0, 0, 0, api.ErrArg}, {math.MaxInt, math.MaxInt, 0, 0, api.ErrArg}, {12, 64, 0, 0, api.ErrArg}, {12, math.MinInt, 0, 0, api.ErrArg},
	} {
		if y, err := count.Repeat(l, x.element, x.zone); y != (api.Span{Lo: x.lo, Hi: x.hi}) || err != x.err {
			t.Error(i, y, err)
		}
	}
	// The element 10 is the first one with sides, the element 9 the last one without.
	sides := []api.Find{{Element: 10, Side: api.LeftS, Zones: api.Set{1}}, {Element: 10, Side: api.RightS, Zones: api.Set{1}}, {Element: 9, Zones: api.Set{1}}, {Element: 9, Zones: api.Set{1}}}
	for element, want := range map[int]api.Span{10: {Lo: 1, Hi: 2}, 9: {Lo: 2, Hi: 2}} {
		if y, err := count.Repeat(sides, element, 0); y != want || err != api.OK {
			t.Error(element, y, err)
		}
	}
	if y, err := count.Repeat(nil, 12, 0); y != (api.Span{}) || err != api.OK {
		t.Error(y, err)
	}
	if y, err := count.Repeat(nil, 32, 0); y != (api.Span{}) || err != api.ErrArg {
		t.Error(y, err)
	}
}

// P5.6: of the left ones, of the right ones and of half of all the greatest number counts.
func TestRepeatSides(t *testing.T) {
	for left := range 5 {
		for right := range 5 {
			for either := range 5 {
				var l []api.Find
				for side, number := range []int{0, left, right, either} {
					for range number {
						l = append(l, bone(side, 6))
					}
				}
				all := left + right + either
				least := 0
				for 2*least < all || least < left || least < right {
					least++
				}
				if y, err := count.Repeat(l, 12, 1); y != (api.Span{Lo: least, Hi: all}) || err != api.OK {
					t.Error(left, right, either, y, err)
				}
			}
		}
	}
}

// P5.6: the element and the zone, of several the least ones.
func TestZoneExamples(t *testing.T) {
	first := []api.Find{bone(api.LeftS, 1), bone(api.LeftS, 3), bone(api.RightS, 1), bone(api.EitherS, 1), bone(api.EitherS, 1), middle(4), middle(4)}
	for i, x := range []struct {
		l             []api.Find
		element, zone int
		err           api.Errno
	}{
		{first, 12, 0, api.OK}, {first[5:], 3, 2, api.OK}, {first[1:2], 12, 0, api.OK}, {first[2:6], 12, 0, api.OK}, {first[3:], 3, 2, api.OK}, {first[4:6], 3, 2, api.OK},
		{[]api.Find{middle(1 << 15)}, 3, 15, api.OK}, {[]api.Find{middle(1 << 15), middle(1<<15 | 1)}, 3, 15, api.OK}, {[]api.Find{middle(1 << 15), middle(1)}, 3, 0, api.OK}, {[]api.Find{middle(6), middle(12), middle(4)}, 3, 2, api.OK},
		{[]api.Find{{Element: 31, Side: api.EitherS, Zones: api.Set{1 << 15}}}, 31, 15, api.OK}, {[]api.Find{bone(api.LeftS, 2), {Element: 0, Zones: api.Set{4}}}, 0, 2, api.OK},
		// Two middle ones are two people, a left and a right one can be one: so the greater number of finds need not count.
		{[]api.Find{bone(api.LeftS, 1), bone(api.RightS, 1), bone(api.EitherS, 1), middle(1), middle(1)}, 3, 0, api.OK}, {[]api.Find{bone(api.EitherS, 1), bone(api.EitherS, 1), bone(api.EitherS, 2), bone(api.EitherS, 2), bone(api.EitherS, 2)}, 12, 1, api.OK},
		{nil, 0, 0, api.ErrNone}, {[]api.Find{}, 0, 0, api.ErrNone},
	} {
		if element, zone, err := count.Zones(x.l); element != x.element || zone != x.zone || err != x.err {
			t.Error(i, element, zone, err)
		}
	}
}

// P5.6: Zones, held against Repeat of all elements and zones; both change no finds.
func TestZones(t *testing.T) {
	x := noise(41)
	for range 200 {
		l := someFinds(&x, x.from(1, 60))
		kept := clonedFinds(l)
		greatest, element, zone := -1, 0, 0
		for e := range api.MaxElement + 1 {
			for z := range api.MaxZone + 1 {
				y, err := count.Repeat(l, e, z)
				if err != api.OK {
					t.Fatal(l, e, z, err)
				}
				if y.Lo > greatest {
					greatest, element, zone = y.Lo, e, z
				}
			}
		}
		if e, z, err := count.Zones(l); e != element || z != zone || err != api.OK || !sameFinds(l, kept) {
			t.Fatal(l, e, z, err, element, zone)
		}
	}
}

// P5.6: a find that is not valid counts ahead of all else, wherever it is.
func TestZonesErrors(t *testing.T) {
	x := noise(42)
	for i, f := range wrongFinds() {
		for at := range 4 {
			l := slices.Insert(someFinds(&x, 3), at, f)
			for _, element := range []int{12, 32, -1} {
				if y, err := count.Repeat(l, element, 0); y != (api.Span{}) || err != api.ErrFind {
					t.Error(i, at, y, err)
				}
			}
			if element, zone, err := count.Zones(l); element != 0 || zone != 0 || err != api.ErrFind {
				t.Error(i, at, element, zone, err)
			}
		}
	}
}

// sided returns all ways in which finds can be of sides: those of which it cannot be told are left or right.
func sided(l []api.Find) [][]int {
	ways := [][]int{nil}
	for _, f := range l {
		sides := []int{f.Side}
		if f.Side == api.EitherS {
			sides = []int{api.LeftS, api.RightS}
		}
		var longer [][]int
		for _, way := range ways {
			for _, side := range sides {
				longer = append(longer, append(slices.Clone(way), side))
			}
		}
		ways = longer
	}
	return ways
}

// hasTwice reports whether a person has two finds with a common zone of an element on one side.
func hasTwice(l []api.Find, sides, persons []int) bool {
	for i, f := range l {
		for k, g := range l[:i] {
			if persons[i] == persons[k] && f.Element == g.Element && sides[i] == sides[k] && f.Zones[0]&g.Zones[0] != 0 {
				return true
			}
		}
	}
	return false
}

// having returns how many people have a zone of an element.
func having(l []api.Find, persons []int, element, zone int) int {
	var who []int
	for i, f := range l {
		if f.Element == element && f.Zones[0]>>zone&1 == 1 {
			who = append(who, persons[i])
		}
	}
	return people(who)
}

// P5.14: all ways to give finds people and sides. In some way there are as few people as Repeat says at least, in some as many as at most, if the finds have the zone alone.
func TestRepeatPeople(t *testing.T) {
	x := noise(43)
	wide := 0
	for i := range 60 {
		l := someFinds(&x, x.from(1, 6))
		for k := range l {
			if i%2 == 0 { // with one zone alone nothing else keeps finds apart
				l[k].Zones = api.Set{1}
			}
		}
		var seen [13][4]api.Span
		for e := range seen {
			for z := range seen[e] {
				seen[e][z].Lo = len(l) + 1
			}
		}
		parts := partitions(len(l))
		for _, sides := range sided(l) {
			for _, persons := range parts {
				if hasTwice(l, sides, persons) {
					continue
				}
				for e := range seen {
					for z := range seen[e] {
						n := having(l, persons, e, z)
						seen[e][z] = api.Span{Lo: min(seen[e][z].Lo, n), Hi: max(seen[e][z].Hi, n)}
					}
				}
			}
		}
		for e := range seen {
			for z, is := range seen[e] {
				y, err := count.Repeat(l, e, z)
				if is.Lo < y.Lo || is.Hi > y.Hi || err != api.OK || i%2 == 0 && is != y {
					t.Fatal(l, e, z, is, y, err)
				}
				if y.Hi > y.Lo {
					wide++
				}
			}
		}
	}
	if wide < 50 {
		t.Error(wide)
	}
}
