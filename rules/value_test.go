package rules_test

import (
	"slices"
	"strconv"
	"testing"

	"bonehouse/api"
	"bonehouse/finds"
	"bonehouse/rules"
)

// truths has, for each thing that can be known of a truth, what Eval returns.
func truths() map[state][2]bool {
	return map[state][2]bool{open: {}, surely: {true, false}, never: {false, true}}
}

// P3.3: Eval, by the chapter's examples and each operator at its edges.
func TestEval(t *testing.T) {
	for want, l := range map[state][]string{
		surely: {
			"a.element = b.element and meet(a.zones, b.zones)", "not within(a.age, b.age, 0)", "a.m4 < 5 or a.element = 12",
			"a.side = 1", "a.side < 2", "b.side < 3", "0 < b.side", "a.age < 31", "19 < a.age", "a.age < b.age", "within(a.age, b.age, 30)", "within(b.age, a.age, 30)", "a.no + 1 = b.no", "within(a.m3, b.m3, 60)", "within(a.no, a.no, 0)",
			"known a.m3", "not not known a.m3", "known a.m3 and known b.m3", "known a.m4 or known b.m3", "not (a.m4 < 5 and a.element = 11)", "meet(a.zones, a.zones)", "b.sex < 3", "0 < b.sex", "a.layer = 0 and b.square = 0 and a.wear = b.wear",
			"a.age + b.age < 81", "54 < a.age + b.age", "b.age - a.age < 31", "4 < b.age - a.age", "a.age * -1 < -19", "a.age * b.age < 1501", "699 < a.age * b.age",
		},
		never: {
			"within(a.m3, b.m3, 39)", "a.side = 2", "a.side < 1", "b.side < 1", "b.side = 3", "a.age < 20", "30 < a.age", "b.age < a.age", "b.age = a.age", "within(a.age, b.age, 4)", "a.no = b.no", "a.no < a.no",
			"a.m4 < 5 and a.element = 11", "a.element = 11 or a.element = 13", "not known a.m3", "b.sex = 3", "not meet(a.zones, b.zones)", "(a.age - 10) * (a.age - 31) < -400",
		},
		open: {
			"a.side = b.side", "b.side = 1", "b.side = 2", "b.side < 2", "a.age < 30", "a.age < 21", "20 < a.age", "29 < a.age", "a.age = 20", "a.age = 30", "within(a.age, b.age, 29)", "within(a.age, b.age, 5)", "within(a.m3, b.m3, 50)", "within(a.m3, b.m3, 59)", "within(a.m3, b.m3, 40)",
			"known a.m4", "not known a.m4", "a.m4 < 5", "a.m4 = a.m4", "within(a.m4, 5, 1000000)", "a.m4 * 0 = 0", "5 < a.m4 + a.m3", "a.m4 < 5 and a.element = 12", "a.m4 < 5 or a.element = 11", "not a.m4 < 5", "known a.m4 or not known a.m4", "a.age - a.age = 0", "a.age = a.age", "a.m3 = a.m3", "a.sex = 1", "a.sex = b.sex", "a.sex = 2", "b.sex < 2",
			"a.age + b.age < 80", "a.age * b.age < 1500", "b.age - a.age < 30", "(a.age - 25) * (a.age - 25) < 0", "a.age < 30 and a.side = 1", "a.age < 30 or a.side = 2",
		},
	} {
		for _, s := range l {
			if is, not, err := rules.Eval(parse(t, s), left(), either()); [2]bool{is, not} != truths()[want] || err != api.OK {
				t.Error(s, is, not, err)
			}
		}
	}
}

// P3.3: what is known of the truths that AndO, OrO and NotO make, for all that can be known of their parts.
func TestJunctions(t *testing.T) {
	parts := map[state]string{open: "a.m4 < 1", surely: "a.no = 1", never: "a.no = 2"}
	and := [3][3]state{{open, open, never}, {open, surely, never}, {never, never, never}}
	or := [3][3]state{{open, surely, open}, {surely, surely, surely}, {open, surely, never}}
	for i, x := range []state{open, surely, never} {
		for j, y := range []state{open, surely, never} {
			for text, want := range map[string]state{parts[x] + " and " + parts[y]: and[i][j], parts[x] + " or " + parts[y]: or[i][j], "not " + parts[x]: []state{open, never, surely}[i]} {
				if is, not, err := rules.Eval(parse(t, text), left(), either()); [2]bool{is, not} != truths()[want] || err != api.OK {
					t.Error(text, is, not, err)
				}
			}
		}
	}
}

// P3.3: all that a field can be known as.
func TestFieldsOfFinds(t *testing.T) {
	f := api.Find{No: 4095, Element: 31, Side: api.RightS, Zones: api.Set{1 << 15}, Age: api.Span{Lo: 7, Hi: 120}, Sex: api.MaleX, Wear: 7, Layer: 254, Square: 255, Measures: []api.Measure{{Kind: 0, Value: 5, Error: 1000}, {Kind: 15, Value: 100000, Error: 1000}}}
	for n, want := range []api.Span{{Lo: 4095, Hi: 4095}, {Lo: 31, Hi: 31}, {Lo: 2, Hi: 2}, {Lo: 7, Hi: 120}, {Lo: 2, Hi: 2}, {Lo: 7, Hi: 7}, {Lo: 254, Hi: 254}, {Lo: 255, Hi: 255}} {
		if s, is, err := rules.Range(field(2*n), f, left()); s != want || !is || err != api.OK {
			t.Error(n, s, is, err)
		}
		if s, is, err := rules.Range(field(2*n+1), left(), f); s != want || !is || err != api.OK {
			t.Error(n, s, is, err)
		}
	}
	for n := range 32 {
		var want api.Span
		has := false
		switch n {
		case 0:
			want, has = api.Span{Lo: -995, Hi: 1005}, true
		case 30:
			want, has = api.Span{Lo: 99000, Hi: 101000}, true
		case 7:
			want, has = api.Span{Lo: 395, Hi: 405}, true
		}
		if s, is, err := rules.Range(node(api.MeasureO, n), f, left()); s != want || is != has || err != api.OK {
			t.Error(n, s, is, err)
		}
	}
	for side, want := range []api.Span{{}, {Lo: 1, Hi: 1}, {Lo: 2, Hi: 2}, {Lo: 1, Hi: 2}} {
		f.Side, f.Element = side, 10
		if side == api.MiddleS {
			f.Element = 9
		}
		if s, is, err := rules.Range(field(4), f, left()); s != want || !is || err != api.OK {
			t.Error(side, s, is, err)
		}
	}
	for sex, want := range []api.Span{{Lo: 1, Hi: 2}, {Lo: 1, Hi: 1}, {Lo: 1, Hi: 2}, {Lo: 1, Hi: 2}, {Lo: 2, Hi: 2}} {
		f.Sex = sex
		if s, is, err := rules.Range(field(9), left(), f); s != want || !is || err != api.OK {
			t.Error(sex, s, is, err)
		}
	}
}

// P3.3: Range, by the example and at the ends of what can be reached.
func TestRange(t *testing.T) {
	for text, want := range map[string]api.Span{
		"b.m3 - a.m3": {Lo: 40, Hi: 60}, "a.m3 + b.m3": {Lo: 840, Hi: 860}, "a.age * a.age": {Lo: 400, Hi: 900}, "(a.age - 25) * (b.age - 40)": {Lo: -50, Hi: 50}, "-1 * a.age": {Lo: -30, Hi: -20}, "a.age - a.age": {Lo: -10, Hi: 10}, "0 * a.age": {}, "-7": {Lo: -7, Hi: -7},
		"(a.age - 31) * (b.age - 51)": {Lo: 1, Hi: 176}, "(a.age - 31) * b.age": {Lo: -550, Hi: -35}, "(a.age - 22) * -3": {Lo: -24, Hi: 6},
	} {
		e := parse(t, text+" < 1").L[0]
		if s, is, err := rules.Range(e, left(), either()); s != want || !is || err != api.OK {
			t.Error(text, s, is, err)
		}
	}
	for _, text := range []string{"a.m4", "a.m4 + 1", "1 - a.m4", "a.m4 * 0", "0 * b.m0", "a.m3 + b.m4", "(a.m4 + 1) * a.m3"} {
		e := parse(t, text+" < 1").L[0]
		if s, is, err := rules.Range(e, left(), either()); s != (api.Span{}) || is || err != api.OK {
			t.Error(text, s, is, err)
		}
	}
	f := left()
	f.Measures = []api.Measure{{Value: 100000, Error: 1000}}
	e := parse(t, "a.m0 * a.m0 * b.m0 < 0").L[0]
	if s, is, err := rules.Range(e, f, f); s != (api.Span{Lo: 99000 * 99000 * 99000, Hi: 101000 * 101000 * 101000}) || !is || err != api.OK {
		t.Error(s, is, err)
	}
	if s, is, err := rules.Range(reaching(api.MaxReach), f, f); max(s.Lo, -s.Lo) > api.MaxReach || s.Lo != s.Hi || !is || err != api.OK {
		t.Error(s, is, err)
	}
	far := parse(t, "1000000 * 1000000 * 1000 < -1000000 * 1000000 * 1000")
	if is, not, err := rules.Eval(far, f, f); is || !not || err != api.OK {
		t.Error(is, not, err)
	}
	far.Op, far.N = api.WithinO, 1000000
	if is, not, err := rules.Eval(far, f, f); is || !not || err != api.OK {
		t.Error(is, not, err)
	}
}

// P3.3: Range and Eval, against the possible values one after the other.
func TestValues(t *testing.T) {
	x := noise(9)
	tried := 0
	for _, e := range conditions(t, &x, 4000) {
		a, b := aFind(&x), aFind(&x)
		if !isSmall(e, a, b) {
			continue
		}
		tried++
		if is, not, err := rules.Eval(e, a, b); [2]bool{is, not} != truths()[truthOf(e, a, b)] || err != api.OK {
			t.Fatal(print(t, e), a, b, is, not, err)
		}
	}
	for range 4000 {
		e := aNumber(&x, 4)
		a, b := aFind(&x), aFind(&x)
		if _, err := rules.Print(e); err != api.OK || !isSmall(e, a, b) { // it can reach too far
			continue
		}
		tried++
		var want api.Span
		l := values(e, a, b)
		if l != nil {
			want = api.Span{Lo: l[0], Hi: l[len(l)-1]}
		}
		if s, is, err := rules.Range(e, a, b); s != want || is != (l != nil) || err != api.OK {
			t.Fatal(print(t, e), a, b, s, is, err)
		}
	}
	if tried < 6000 {
		t.Error(tried)
	}
}

// P3.3: the order of the errors of Range, Eval and Exact.
func TestErrorsOfValues(t *testing.T) {
	missing := parse(t, "a.m4 = 1")
	for i, x := range []struct {
		e    api.Expr
		a, b api.Find
		want [3]api.Errno
	}{
		{api.Expr{}, bad(), bad(), [3]api.Errno{api.ErrType, api.ErrType, api.ErrType}},
		{field(16), left(), bad(), [3]api.Errno{api.ErrType, api.ErrType, api.ErrType}},
		{field(0), bad(), left(), [3]api.Errno{api.ErrFind, api.ErrType, api.ErrType}},
		{field(0), left(), bad(), [3]api.Errno{api.ErrFind, api.ErrType, api.ErrType}},
		{field(0), left(), left(), [3]api.Errno{api.OK, api.ErrType, api.ErrType}},
		{missing, left(), bad(), [3]api.Errno{api.ErrType, api.ErrFind, api.ErrFind}},
		{missing, bad(), left(), [3]api.Errno{api.ErrType, api.ErrFind, api.ErrFind}},
		{missing, api.Find{}, api.Find{}, [3]api.Errno{api.ErrType, api.ErrFind, api.ErrFind}},
		{missing, left(), left(), [3]api.Errno{api.ErrType, api.OK, api.ErrNone}},
		{deep(17), left(), left(), [3]api.Errno{api.ErrType, api.ErrType, api.ErrType}},
		{node(api.LessO, 0, field(0), field(16)), left(), left(), [3]api.Errno{api.ErrType, api.ErrType, api.ErrType}},
	} {
		s, has, first := rules.Range(x.e, x.a, x.b)
		is, not, second := rules.Eval(x.e, x.a, x.b)
		really, third := rules.Exact(x.e, x.a, x.b)
		if got := [3]api.Errno{first, second, third}; got != x.want {
			t.Error(i, got)
		}
		if first != api.OK && (has || s != api.Span{}) || second != api.OK && (is || not) || third != api.OK && really {
			t.Error(i, s, has, is, not, really)
		}
	}
}

// P3.3: Exact, and what it asks for.
func TestExact(t *testing.T) {
	sharp := left()
	sharp.Age.Hi, sharp.Sex, sharp.Measures[0].Error = 20, api.FemaleX, 0
	for _, x := range []struct {
		text string
		a, b api.Find
		is   bool
		err  api.Errno
	}{
		{"a.element = b.element", left(), either(), true, api.OK}, {"a.no = b.no", left(), either(), false, api.OK}, {"meet(a.zones, b.zones)", left(), either(), true, api.OK}, {"not meet(a.zones, b.zones)", left(), either(), false, api.OK}, {"1 = 1", left(), either(), true, api.OK},
		{"a.side = 1", left(), either(), true, api.OK}, {"b.side = 1", left(), either(), false, api.ErrArg}, {"b.side < 3", left(), either(), false, api.ErrArg}, {"a.age < 100", left(), either(), false, api.ErrArg}, {"a.sex < 5", left(), either(), false, api.ErrArg}, {"a.m3 = 400", left(), either(), false, api.ErrArg}, {"known a.m3", left(), either(), false, api.ErrArg},
		{"a.m4 = 400", left(), either(), false, api.ErrNone}, {"known a.m4", left(), either(), false, api.ErrNone}, {"known b.m4", left(), either(), false, api.ErrNone}, {"a.m4 < a.age", left(), either(), false, api.ErrNone}, {"a.age < a.m4", left(), either(), false, api.ErrNone}, {"a.m3 < a.m4", left(), either(), false, api.ErrNone}, {"a.no = 1 or known a.m4", left(), either(), false, api.ErrNone}, {"a.no = 1 or a.age = 1", left(), either(), false, api.ErrArg}, {"a.no = 2 and a.m4 = 1", left(), either(), false, api.ErrNone},
		{"a.age = 20", sharp, either(), true, api.OK}, {"a.age < 20", sharp, either(), false, api.OK}, {"a.sex = 1", sharp, either(), true, api.OK}, {"a.m3 = 400", sharp, either(), true, api.OK}, {"known a.m3", sharp, either(), true, api.OK}, {"not known a.m3", sharp, either(), false, api.OK}, {"a.m3 * 2 - a.age = 780", sharp, either(), true, api.OK}, {"b.m3 * 2 - b.age = 780", either(), sharp, true, api.OK}, {"b.age = b.age", sharp, either(), false, api.ErrArg},
	} {
		if is, err := rules.Exact(parse(t, x.text), x.a, x.b); is != x.is || err != x.err {
			t.Error(x.text, is, err)
		}
	}
	for sex := range 5 {
		f := left()
		f.Sex = sex
		want := api.OK
		if sex != api.FemaleX && sex != api.MaleX {
			want = api.ErrArg
		}
		if is, err := rules.Exact(parse(t, "a.sex = 1"), f, f); err != want || is != (sex == api.FemaleX) {
			t.Error(sex, is, err)
		}
	}
}

// P3.3: Exact returns an error exactly if what is asked for is missing, or not exactly known.
func TestExactErrors(t *testing.T) {
	x := noise(10)
	count := map[api.Errno]int{}
	for range 6000 {
		e := conditions(t, &x, 1)[0]
		a, b := aFind(&x), aFind(&x)
		if x.below(2) == 0 {
			a, b = aSharper(&x, a, true), aSharper(&x, b, x.below(2) == 0)
		}
		want := api.OK
		l, _ := rules.Fields(e)
		for _, n := range l {
			if n == 16 || n == 17 {
				continue
			}
			name := "m" + strconv.Itoa((n-100)/2)
			if n < 100 {
				name = fieldNames()[n/2]
			}
			switch found := choices([2]api.Find{a, b}[n%2], name); {
			case len(found) == 0:
				want = api.ErrNone
			case len(found) > 1 && want == api.OK:
				want = api.ErrArg
			}
		}
		is, err := rules.Exact(e, a, b)
		if err != want || is && err != api.OK || err == api.OK && is != (truthOf(e, a, b) == surely) {
			t.Fatal(print(t, e), a, b, is, err)
		}
		count[err]++
	}
	if count[api.OK] < 500 || count[api.ErrArg] < 500 || count[api.ErrNone] < 500 {
		t.Error(count)
	}
}

// P3.7: what is surely so stays so for all finds that are at least as sharp; of exactly known ones Exact says it; and where Exact says something, Eval says the same.
func TestSoundness(t *testing.T) {
	x := noise(11)
	kept, told := 0, 0
	for _, e := range conditions(t, &x, 3000) {
		a, b := aFind(&x), aFind(&x)
		is, not, _ := rules.Eval(e, a, b)
		for range 4 {
			c, d := aSharper(&x, a, false), aSharper(&x, b, false)
			also, neither, err := rules.Eval(e, c, d)
			if is && !also || not && !neither || err != api.OK {
				t.Fatal(print(t, e), a, b, c, d)
			}
			if is || not {
				kept++
			}
			c, d = aSharper(&x, c, true), aSharper(&x, d, true)
			really, err := rules.Exact(e, c, d)
			if err != api.OK || is && !really || not && really {
				t.Fatal(print(t, e), a, b, c, d, really, err)
			}
			also, neither, err = rules.Eval(e, c, d)
			if also != really || neither == really || err != api.OK {
				t.Fatal(print(t, e), c, d, really, also, neither)
			}
			told++
		}
	}
	if kept < 4000 || told < 10000 {
		t.Error(kept, told)
	}
}

// P3.8: the possible values for sharper finds lie within those for the finds, and do not go away.
func TestRangesOfSharper(t *testing.T) {
	x := noise(12)
	for range 6000 {
		e := aNumber(&x, x.from(1, 5))
		a, b := aFind(&x), aFind(&x)
		c, d := aSharper(&x, a, false), aSharper(&x, b, x.below(2) == 0)
		s, has, err := rules.Range(e, a, b)
		if err == api.ErrType {
			continue
		}
		r, is, err := rules.Range(e, c, d)
		if err != api.OK || has && (!is || r.Lo < s.Lo || r.Hi > s.Hi) || r.Lo > r.Hi || s.Lo > s.Hi {
			t.Fatal(print(t, e), s, r, has, is, err)
		}
	}
}

// P3.3: Sharper, and what keeps a find from being at least as sharp.
func TestSharper(t *testing.T) {
	g := either()
	g.Sex, g.Wear, g.Layer, g.Square = api.MaybeMaleX, 2, 3, 4
	g.Measures = append(g.Measures, api.Measure{Kind: 7, Value: 90, Error: 10})
	for i, x := range []struct {
		change func(f *api.Find)
		want   bool
	}{
		{func(f *api.Find) {}, true}, {func(f *api.Find) { f.No = 3 }, false}, {func(f *api.Find) { f.Element = 13 }, false}, {func(f *api.Find) { f.Wear = 1 }, false}, {func(f *api.Find) { f.Layer = 2 }, false}, {func(f *api.Find) { f.Square = 5 }, false},
		{func(f *api.Find) { f.Zones = api.Set{4} }, false}, {func(f *api.Find) { f.Zones = api.Set{21} }, false}, {func(f *api.Find) { f.Element, f.Side = 9, api.MiddleS }, false},
		{func(f *api.Find) { f.Side = api.LeftS }, true}, {func(f *api.Find) { f.Side = api.RightS }, true},
		{func(f *api.Find) { f.Age = api.Span{Lo: 36, Hi: 49} }, true}, {func(f *api.Find) { f.Age = api.Span{Lo: 50, Hi: 50} }, true}, {func(f *api.Find) { f.Age.Lo = 34 }, false}, {func(f *api.Find) { f.Age.Hi = 51 }, false}, {func(f *api.Find) { f.Age = api.Span{Lo: 51, Hi: 60} }, false},
		{func(f *api.Find) { f.Sex = api.FemaleX }, true}, {func(f *api.Find) { f.Sex = api.MaleX }, true}, {func(f *api.Find) { f.Sex = api.UnknownX }, true}, {func(f *api.Find) { f.Sex = api.MaybeFemaleX }, true},
		{func(f *api.Find) { f.Measures[0] = api.Measure{Kind: 3, Value: 450} }, true}, {func(f *api.Find) { f.Measures[0] = api.Measure{Kind: 3, Value: 453, Error: 2} }, true}, {func(f *api.Find) { f.Measures[0] = api.Measure{Kind: 3, Value: 453, Error: 3} }, false}, {func(f *api.Find) { f.Measures[0] = api.Measure{Kind: 3, Value: 446, Error: 2} }, false}, {func(f *api.Find) { f.Measures[0].Error = 6 }, false}, {func(f *api.Find) { f.Measures[0].Kind = 2 }, false}, {func(f *api.Find) { f.Measures = f.Measures[:1] }, false}, {func(f *api.Find) { f.Measures = f.Measures[1:] }, false}, {func(f *api.Find) { f.Measures = nil }, false},
		{func(f *api.Find) { f.Measures = slices.Insert(f.Measures, 0, api.Measure{Kind: 0, Value: 9, Error: 9}) }, true}, {func(f *api.Find) { f.Measures = append(f.Measures, api.Measure{Kind: 15, Error: 9}) }, true},
		{func(f *api.Find) { f.Measures[1] = api.Measure{Kind: 7, Value: 80} }, true}, {func(f *api.Find) { f.Measures[1] = api.Measure{Kind: 7, Value: 79} }, false}, {func(f *api.Find) { f.Measures[1] = api.Measure{Kind: 7, Value: 101} }, false},
	} {
		f := g
		f.Measures = slices.Clone(g.Measures)
		x.change(&f)
		if is, err := rules.Sharper(f, g); is != x.want || err != api.OK {
			t.Error(i, is, err)
		}
	}
	for i, x := range [][2]api.Find{{bad(), left()}, {left(), bad()}, {bad(), bad()}, {{}, {}}} {
		if is, err := rules.Sharper(x[0], x[1]); is || err != api.ErrFind {
			t.Error(i, is, err)
		}
	}
	left, right := g, g
	left.Side, right.Side = api.LeftS, api.RightS
	for _, x := range [][2]api.Find{{g, left}, {left, right}, {right, left}} {
		if is, err := rules.Sharper(x[0], x[1]); is || err != api.OK {
			t.Error(x, is, err)
		}
	}
}

// sharper reports whether all that f can be g can be as well, by the possible values.
func sharper(f, g api.Find) bool {
	if f.Zones != g.Zones {
		return false
	}
	names := fieldNames()[:8]
	for _, m := range g.Measures {
		names = append(names, "m"+strconv.Itoa(m.Kind))
	}
	for _, name := range names {
		of, all := choices(f, name), choices(g, name)
		if len(of) == 0 || slices.ContainsFunc(of, func(n int) bool { return !slices.Contains(all, n) }) {
			return false
		}
	}
	return true
}

// P3.3, P3.12: Sharper, of each two of many finds, is an order.
func TestSharperIsAnOrder(t *testing.T) {
	x := noise(13)
	for range 60 {
		f := aFind(&x)
		l := []api.Find{f, aFind(&x)}
		for range 10 {
			g := aSharper(&x, l[x.below(len(l))], x.below(5) == 0)
			if x.below(5) == 0 {
				g.Sex = x.below(5)
			}
			l = append(l, g)
		}
		is := make([][]bool, len(l))
		for i, f := range l {
			for _, g := range l {
				s, err := rules.Sharper(f, g)
				if s != sharper(f, g) || err != api.OK || finds.CheckFind(f) != api.OK {
					t.Fatal(f, g, s, err)
				}
				is[i] = append(is[i], s)
			}
		}
		for i := range l {
			for j := range l {
				if !is[i][i] || is[i][j] && is[j][i] && !alike(l[i], l[j]) {
					t.Fatal(l[i], l[j])
				}
				for k := range l {
					if is[i][j] && is[j][k] && !is[i][k] {
						t.Fatal(l[i], l[j], l[k])
					}
				}
			}
		}
	}
}

// alike reports whether all that is known of both finds is the same: of the sex only whether it is known, and which it is.
func alike(f, g api.Find) bool {
	return f.No == g.No && f.Element == g.Element && f.Side == g.Side && f.Zones == g.Zones && f.Age == g.Age && slices.Equal(choices(f, "sex"), choices(g, "sex")) && f.Wear == g.Wear && f.Layer == g.Layer && f.Square == g.Square && slices.Equal(f.Measures, g.Measures)
}
