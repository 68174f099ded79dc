package finds_test

import (
	"math"
	"slices"
	"testing"

	"bonehouse/api"
	"bonehouse/bits"
	"bonehouse/finds"
)

// P2.6: the chapter's example, and what keeps two finds from being joined.
func TestJoined(t *testing.T) {
	want := api.Find{No: 9, Element: 12, Side: api.LeftS, Zones: api.Set{7}, Measures: []api.Measure{{Kind: 5, Value: 103, Error: 2}}, Age: api.Span{Lo: 30, Hi: 40}, Sex: api.MaybeFemaleX, Wear: 3, Layer: 2, Square: 3}
	if f, err := finds.Joined(first(), second(), 9); !same(f, want) || err != api.OK {
		t.Error(f, err)
	}
	want.Layer, want.Square = 4, 5
	if f, err := finds.Joined(second(), first(), 9); !same(f, want) || err != api.OK {
		t.Error(f, err)
	}
	if f, err := finds.Joined(first(), first(), 9); !none(f) || err != api.ErrOrder {
		t.Error(f, err)
	}
	for i, x := range []struct {
		change func(f *api.Find)
		err    api.Errno
	}{
		{func(f *api.Find) { f.Side = api.LeftS }, api.OK}, {func(f *api.Find) { f.Side = api.RightS }, api.ErrOrder}, {func(f *api.Find) { f.Element = 13 }, api.ErrOrder},
		{func(f *api.Find) { f.Zones = api.Set{1 << 15} }, api.OK}, {func(f *api.Find) { f.Zones = api.Set{6} }, api.ErrOrder},
		{func(f *api.Find) { f.Age = api.Span{Lo: 40, Hi: 60} }, api.OK}, {func(f *api.Find) { f.Age = api.Span{Lo: 41, Hi: 60} }, api.ErrOrder},
		{func(f *api.Find) { f.Age = api.Span{Lo: 0, Hi: 20} }, api.OK}, {func(f *api.Find) { f.Age = api.Span{Lo: 0, Hi: 19} }, api.ErrOrder},
		{func(f *api.Find) { f.Measures[0].Value = 106 }, api.OK}, {func(f *api.Find) { f.Measures[0].Value = 107 }, api.ErrOrder},
		{func(f *api.Find) { f.Measures[0].Value = 94 }, api.OK}, {func(f *api.Find) { f.Measures[0].Value = 93 }, api.ErrOrder},
		{func(f *api.Find) { f.Measures[0] = api.Measure{Kind: 6, Value: 107} }, api.OK}, {func(f *api.Find) { f.Measures = nil }, api.OK},
		{func(f *api.Find) { f.Measures = eight(6, 8) }, api.ErrOrder}, {func(f *api.Find) { f.Measures = eight(6, 7) }, api.OK}, {func(f *api.Find) { f.Measures = append(first().Measures, eight(6, 7)...) }, api.OK},
		{func(f *api.Find) { f.Wear = 8 }, api.ErrFind}, {func(f *api.Find) { f.Zones = api.Set{} }, api.ErrFind},
	} {
		f := second()
		x.change(&f)
		if joined, err := finds.Joined(first(), f, 9); err != x.err || err != api.OK && !none(joined) {
			t.Error(i, joined, err)
		}
		if joined, err := finds.Joined(f, first(), 9); err != x.err || err != api.OK && !none(joined) {
			t.Error(i, joined, err)
		}
	}
}

// eight returns count measurements of the kinds from first on.
func eight(first, count int) []api.Measure {
	var l []api.Measure
	for i := range count {
		l = append(l, api.Measure{Kind: first + i, Value: 5})
	}
	return l
}

// P2.6: the order of the errors of Joined.
func TestErrorsOfJoined(t *testing.T) {
	bad := first()
	bad.Sex = 5
	for i, x := range []struct {
		a, b api.Find
		no   int
		want api.Errno
	}{
		{bad, second(), 9, api.ErrFind}, {second(), bad, 9, api.ErrFind}, {bad, second(), -1, api.ErrFind}, {second(), bad, 4096, api.ErrFind},
		{first(), second(), -1, api.ErrArg}, {first(), second(), 4096, api.ErrArg}, {first(), first(), -1, api.ErrArg}, {first(), second(), math.MinInt, api.ErrArg}, {first(), second(), math.MaxInt, api.ErrArg},
		{first(), first(), 4095, api.ErrOrder}, {first(), second(), 0, api.OK}, {first(), second(), 4095, api.OK}, {first(), second(), 1, api.OK},
	} {
		if f, err := finds.Joined(x.a, x.b, x.no); err != x.want || err != api.OK && !none(f) {
			t.Error(i, f, err)
		}
	}
}

// P2.6: what two measurements of a kind become.
func TestJoinedMeasures(t *testing.T) {
	for i, x := range []struct{ a, b, want api.Measure }{
		{api.Measure{Value: 100, Error: 4}, api.Measure{Value: 103, Error: 2}, api.Measure{Value: 103, Error: 2}},
		{api.Measure{Value: 100, Error: 4}, api.Measure{Value: 104}, api.Measure{Value: 104}},
		{api.Measure{Value: 100, Error: 4}, api.Measure{Value: 107, Error: 4}, api.Measure{Value: 104, Error: 1}},
		{api.Measure{Value: 100, Error: 4}, api.Measure{Value: 108, Error: 4}, api.Measure{Value: 104}},
		{api.Measure{Value: 0, Error: 10}, api.Measure{Value: 1, Error: 10}, api.Measure{Value: 1, Error: 10}},       // -9 to 10
		{api.Measure{Value: 0, Error: 1000}, api.Measure{Value: 0, Error: 1000}, api.Measure{Value: 0, Error: 1000}}, // -1000 to 1000
		{api.Measure{Value: 0, Error: 1000}, api.Measure{Value: 900, Error: 901}, api.Measure{Value: 500, Error: 501}},
		{api.Measure{Value: 100000, Error: 1000}, api.Measure{Value: 99999, Error: 1000}, api.Measure{Value: 100000, Error: 1000}},
		{api.Measure{Value: 0, Error: 1}, api.Measure{Value: 2, Error: 2}, api.Measure{Value: 1, Error: 1}},
	} {
		a, b := small(1, 1), small(2, 2)
		a.Measures, b.Measures = []api.Measure{x.a}, []api.Measure{x.b}
		for _, pair := range [][2]api.Find{{a, b}, {b, a}} {
			if f, err := finds.Joined(pair[0], pair[1], 3); err != api.OK || !slices.Equal(f.Measures, []api.Measure{x.want}) {
				t.Error(i, f.Measures, err)
			}
		}
	}
	a, b := small(1, 1), small(2, 2)
	a.Measures, b.Measures = []api.Measure{{Kind: 1}, {Kind: 3}, {Kind: 9}}, []api.Measure{{Kind: 0}, {Kind: 3}, {Kind: 4}, {Kind: 15}}
	if f, err := finds.Joined(a, b, 3); err != api.OK || !slices.Equal(f.Measures, []api.Measure{{Kind: 0}, {Kind: 1}, {Kind: 3}, {Kind: 4}, {Kind: 9}, {Kind: 15}}) {
		t.Error(f.Measures, err)
	}
}

// P2.6: each two sexes, wears and sides.
func TestJoinedSexAndSide(t *testing.T) {
	want := [5][5]int{{0, 1, 2, 3, 4}, {1, 1, 1, 0, 0}, {2, 1, 2, 0, 0}, {3, 0, 0, 3, 4}, {4, 0, 0, 4, 4}}
	for a := range 5 {
		for b := range 5 {
			f, g := small(1, 1), small(2, 2)
			f.Sex, g.Sex, f.Wear, g.Wear = a, b, a, b
			if x, err := finds.Joined(f, g, 3); err != api.OK || x.Sex != want[a][b] || x.Wear != max(a, b) {
				t.Error(a, b, x, err)
			}
		}
	}
	sides := [4][4]int{1: {1: 1, 3: 1}, 2: {2: 2, 3: 2}, 3: {1: 1, 2: 2, 3: 3}} // 0: not joined
	for a := 1; a <= 3; a++ {
		for b := 1; b <= 3; b++ {
			f, g := small(1, 1), small(2, 2)
			f.Side, g.Side = a, b
			if x, err := finds.Joined(f, g, 3); x.Side != sides[a][b] || (err == api.OK) != (sides[a][b] != 0) {
				t.Error(a, b, x, err)
			}
		}
	}
}

// P2.6: Overlap and Sides.
func TestOverlap(t *testing.T) {
	for i, x := range []struct {
		change func(a, b *api.Find)
		want   bool
	}{
		{func(a, b *api.Find) {}, true}, {func(a, b *api.Find) { b.Zones = api.Set{4} }, false}, {func(a, b *api.Find) { b.Zones = api.Set{6} }, true},
		{func(a, b *api.Find) { b.Element = 13 }, false}, {func(a, b *api.Find) { b.Side = api.RightS }, false}, {func(a, b *api.Find) { a.Side, b.Side = api.RightS, api.RightS }, true},
		{func(a, b *api.Find) { b.Side = api.EitherS }, false}, {func(a, b *api.Find) { a.Side = api.EitherS }, false}, {func(a, b *api.Find) { a.Side, b.Side = api.EitherS, api.EitherS }, false},
		{func(a, b *api.Find) { a.Element, b.Element, a.Side, b.Side = 9, 9, 0, 0 }, true}, {func(a, b *api.Find) { a.Element, b.Element, a.Side, b.Side = 9, 8, 0, 0 }, false},
		{func(a, b *api.Find) { a.Element, a.Side = 9, 0 }, false}, {func(a, b *api.Find) { b.Age, b.Measures, b.Sex = api.Span{}, nil, api.MaleX }, true},
	} {
		a, b := first(), first()
		x.change(&a, &b)
		for _, pair := range [][2]api.Find{{a, b}, {b, a}} {
			if is, err := finds.Overlap(pair[0], pair[1]); is != x.want || err != api.OK {
				t.Error(i, is, err)
			}
		}
	}
	bad := first()
	bad.Layer = -1
	for _, pair := range [][2]api.Find{{bad, first()}, {first(), bad}, {bad, bad}, {{}, {}}} {
		if is, err := finds.Overlap(pair[0], pair[1]); is || err != api.ErrFind {
			t.Error(is, err)
		}
	}
	for side, want := range [][]int{{0}, {1}, {2}, {1, 2}} {
		f := first()
		if f.Side = side; side == 0 {
			f.Element = 0
		}
		if l, err := finds.Sides(f); !slices.Equal(l, want) || err != api.OK {
			t.Error(side, l, err)
		}
	}
	if l, err := finds.Sides(bad); len(l) > 0 || err != api.ErrFind {
		t.Error(l, err)
	}
}

// pairs returns valid finds, two by two.
func pairs() [][2]api.Find {
	var l [][2]api.Find
	x := noise(12)
	for range 4000 {
		l = append(l, [2]api.Find{aFind(&x, 1), aFind(&x, 2)})
	}
	return l
}

// P2.6, P2.12: what two finds become, by another way to get there, in both orders, and what it keeps.
func TestWhatJoinsKeep(t *testing.T) {
	count, narrowed := 0, 0
	for i, p := range pairs() {
		a, b := p[0], p[1]
		want, is := become(a, b, 3)
		f, err := finds.Joined(a, b, 3)
		if is != (err == api.OK) || is && !same(f, want) || !is && (err != api.ErrOrder || !none(f)) {
			t.Fatal(i, a, b, f, err)
		}
		back, err := finds.Joined(b, a, 3)
		if is != (err == api.OK) || back.Layer != b.Layer && is || back.Square != b.Square && is {
			t.Fatal(i, a, b, back, err)
		}
		back.Layer, back.Square = f.Layer, f.Square
		if !same(f, back) {
			t.Fatal(i, f, back)
		}
		if !is {
			continue
		}
		count++
		if finds.CheckFind(f) != api.OK || f.Age.Lo < max(a.Age.Lo, b.Age.Lo) || f.Age.Hi > min(a.Age.Hi, b.Age.Hi) || bits.Size(f.Zones) != bits.Size(a.Zones)+bits.Size(b.Zones) || f.Zones != bits.Union(a.Zones, b.Zones) {
			t.Fatal(i, a, b, f)
		}
		for _, m := range a.Measures {
			for _, o := range b.Measures {
				if m.Kind == o.Kind {
					narrowed++
					keepsNumbers(t, m, o, f.Measures)
				}
			}
		}
	}
	if count < 300 || narrowed < 100 {
		t.Error("too few joins:", count, narrowed)
	}
}

// keepsNumbers tells whether each number in the spans of both measurements is in that of their kind in l.
func keepsNumbers(t *testing.T, a, b api.Measure, l []api.Measure) {
	t.Helper()
	i := slices.IndexFunc(l, func(m api.Measure) bool { return m.Kind == a.Kind })
	if i < 0 {
		t.Fatal(a, b, l)
	}
	in := func(m api.Measure, n int) bool { return m.Value-m.Error <= n && n <= m.Value+m.Error }
	for n := -1100; n < 1200; n++ {
		if in(a, n) && in(b, n) && !in(l[i], n) {
			t.Fatal(a, b, l[i], n)
		}
	}
}

// P2.13: what overlaps cannot be joined.
func TestOverlaps(t *testing.T) {
	count := 0
	for i, p := range pairs() {
		ab, err1 := finds.Overlap(p[0], p[1])
		ba, err2 := finds.Overlap(p[1], p[0])
		if ab != ba || err1 != api.OK || err2 != api.OK {
			t.Fatal(i, p)
		}
		if !ab {
			continue
		}
		count++
		if _, err := finds.Joined(p[0], p[1], 3); err != api.ErrOrder {
			t.Fatal(i, p, err)
		}
	}
	if count < 100 {
		t.Error("too few overlaps:", count)
	}
}

// P2.13: leaves of a find that stands do not overlap, if nothing is assigned anew.
func TestLeavesDoNotOverlap(t *testing.T) {
	kinds := []int{api.EnterE, api.EnterE, api.JoinE, api.JoinE, api.JoinE, api.SplitE, api.DateE, api.WithdrawE}
	count := 0
	for _, r := range registers(t, kinds...) {
		for _, day := range days(r) {
			standing, _ := finds.Standing(r, day)
			for _, f := range standing {
				l, _ := finds.Leaves(r, f.No, day)
				for i, no := range l {
					a, _ := finds.At(r, no, day)
					for _, other := range l[:i] {
						b, _ := finds.At(r, other, day)
						count++
						if is, err := finds.Overlap(a, b); is || err != api.OK {
							t.Fatal(day, f.No, no, other, err)
						}
					}
				}
			}
		}
	}
	if count < 50 {
		t.Error("too few leaves:", count)
	}
}
