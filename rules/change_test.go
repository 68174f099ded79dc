package rules_test

import (
	"regexp"
	"slices"
	"strings"
	"testing"

	"bonehouse/api"
	"bonehouse/rules"
)

// P3.2: Fields, by its examples.
func TestFields(t *testing.T) {
	for text, want := range map[string][]int{
		"1 = 1":                          nil,
		"a.no = a.no":                    {0},
		"b.no = a.no":                    {0, 1},
		"b.square < a.element":           {2, 15},
		"meet(b.zones, a.zones)":         {16, 17},
		"known a.m0":                     {100},
		"known b.m15":                    {131},
		"a.m0 = b.m15 and known a.m0":    {100, 131},
		"known b.m0 or b.m0 = a.m0":      {100, 101},
		"within(b.m3, b.no + a.m3, 7)":   {1, 106, 107},
		"not (b.age = 1 or a.wear = 16)": {7, 10},
	} {
		if l, err := rules.Fields(parse(t, text)); !slices.Equal(l, want) || err != api.OK {
			t.Error(text, l, err)
		}
	}
	for n := range 18 {
		if l, err := rules.Fields(field(n)); !slices.Equal(l, []int{n}) || err != api.OK {
			t.Error(n, l, err)
		}
	}
	if l, err := rules.Fields(number(5)); len(l) != 0 || err != api.OK {
		t.Error(l, err)
	}
}

// P3.2: Fields are the words of the text.
func TestFieldsOfTexts(t *testing.T) {
	words := map[string]int{}
	for n := range 18 {
		words[print(t, field(n))] = n
	}
	for n := range 32 {
		words[print(t, node(api.MeasureO, n))] = 100 + n
	}
	word := regexp.MustCompile(`[ab]\.[a-z]+[0-9]*`)
	x := noise(4)
	for _, e := range conditions(t, &x, 2000) {
		var want []int
		for _, s := range word.FindAllString(print(t, e), -1) {
			want = append(want, words[s])
		}
		slices.Sort(want)
		if l, err := rules.Fields(e); !slices.Equal(l, slices.Compact(want)) || err != api.OK {
			t.Fatal(print(t, e), l, err)
		}
	}
}

// P3.2, P3.9: Swap exchanges both letters of the text, and nothing else; Swap of Swap is the expression itself.
func TestSwap(t *testing.T) {
	other := strings.NewReplacer("a.", "b.", "b.", "a.")
	x := noise(5)
	l := conditions(t, &x, 2000)
	for n := range 18 {
		l = append(l, field(n))
	}
	for n := range 32 {
		l = append(l, node(api.MeasureO, n), node(api.KnownO, n))
	}
	l = append(l, number(7), number(-8), node(api.WithinO, 3, number(5), number(7)))
	for _, e := range l {
		d, err := rules.Swap(e)
		if print(t, d) != other.Replace(print(t, e)) || err != api.OK {
			t.Fatal(e, d, err)
		}
		if f, err := rules.Swap(d); !same(f, e) || err != api.OK {
			t.Fatal(e, f, err)
		}
	}
}

// P3.9: a condition with both finds exchanged is surely so of b and a exactly if it is of a and b.
func TestSwapIsTrue(t *testing.T) {
	x := noise(6)
	for _, e := range conditions(t, &x, 3000) {
		a, b := aFind(&x), aFind(&x)
		d, _ := rules.Swap(e)
		is, not, err := rules.Eval(e, a, b)
		also, neither, err2 := rules.Eval(d, b, a)
		if is != also || not != neither || err != api.OK || err2 != api.OK {
			t.Fatal(print(t, e), is, also, not, neither)
		}
	}
}

// P3.2: Fold, one step each, and where it does nothing.
func TestFold(t *testing.T) {
	for text, want := range map[string]string{
		"1 + 2 < 4 and a.sex = 1": "a.sex = 1",
		"a.no < 2 + 3":            "a.no < 5", "a.no < 2 - 3": "a.no < -1", "a.no < -2 * 3": "a.no < -6", "a.no < 2 * 3 - 4 + 1": "a.no < 3",
		"a.no < 999999 + 1": "a.no < 1000000", "a.no < 1000000 + 1": "a.no < 1000000 + 1", "a.no < -1000000 - 1": "a.no < -1000000 - 1", "a.no < -999999 - 1": "a.no < -1000000",
		"a.no < 1000 * 1000": "a.no < 1000000", "a.no < 1000 * 1001": "a.no < 1000 * 1001", "a.no < -1000 * 1000": "a.no < -1000000", "a.no < -1000 * 1001": "a.no < -1000 * 1001",
		"a.no < 1000 * 1001 - 1000 * 1001": "a.no < 1000 * 1001 - 1000 * 1001", "a.no < (1000000 + 1) * 0": "a.no < (1000000 + 1) * 0", "a.no < 1 + (2 + 3) * 0": "a.no < 1",
		"a.no * 0 < 1": "a.no * 0 < 1", "a.no + 0 < 1": "a.no + 0 < 1", "1 + a.no + 2 < 1": "1 + a.no + 2 < 1", "a.no + (1 + 2) < 1": "a.no + 3 < 1", "a.no - a.no = 0": "a.no - a.no = 0",
		"1 < 2": "0 = 0", "2 < 1": "0 = 1", "1 < 1": "0 = 1", "1 = 1": "0 = 0", "1 = 2": "0 = 1", "0 = 0": "0 = 0", "0 = 1": "0 = 1", "1 = 0": "0 = 1", "-5 = -5": "0 = 0", "a.no = a.no": "a.no = a.no",
		"within(1, 5, 3)": "0 = 1", "within(1, 5, 4)": "0 = 0", "within(5, 1, 4)": "0 = 0", "within(5, 1, 3)": "0 = 1", "within(-3, 3, 6)": "0 = 0", "within(2, 2, 0)": "0 = 0", "within(1000000, -1000000, 1000000)": "0 = 1", "within(1 + 1, a.no, 0)": "within(2, a.no, 0)", "within(a.no, a.no, 5)": "within(a.no, a.no, 5)",
		"1000000 + 1 < 5": "1000000 + 1 < 5", "1000 * 1001 = 1000 * 1001": "1000 * 1001 = 1000 * 1001",
		"a.no = 1 and 1 = 1": "a.no = 1", "1 = 1 and a.no = 1": "a.no = 1", "a.no = 1 and 1 = 2": "0 = 1", "1 = 2 and a.no = 1": "0 = 1", "1 = 1 and 2 = 2": "0 = 0", "1 = 1 and 1 = 2": "0 = 1", "1 = 2 and 1 = 1": "0 = 1", "1 = 2 and 1 = 2": "0 = 1",
		"a.no = 1 or 1 = 1": "0 = 0", "1 = 1 or a.no = 1": "0 = 0", "a.no = 1 or 1 = 2": "a.no = 1", "1 = 2 or a.no = 1": "a.no = 1", "1 = 1 or 2 = 2": "0 = 0", "1 = 1 or 1 = 2": "0 = 0", "1 = 2 or 1 = 1": "0 = 0", "1 = 2 or 1 = 2": "0 = 1",
		"a.no = 1 and a.no = 1": "a.no = 1 and a.no = 1", "a.no = 1 or not a.no = 1": "a.no = 1 or not a.no = 1",
		"not 1 = 1": "0 = 1", "not 1 = 2": "0 = 0", "not not 1 = 1": "0 = 0", "not not not 1 = 1": "0 = 1",
		"not a.no = 1": "not a.no = 1", "not not a.no = 1": "a.no = 1", "not not not a.no = 1": "not a.no = 1", "not not not not a.no = 1": "a.no = 1",
		"not (1 = 1 and not a.no = 1)": "a.no = 1", "not (a.no = 1 and 0 = 0)": "not a.no = 1", "not (not a.no = 1 or 1 = 2)": "a.no = 1", "not (a.no = 1 and 0 = 1)": "0 = 0",
		"known a.m0 and 1 = 1": "known a.m0", "a.m4 < 5 and 0 = 1": "0 = 1", "meet(a.zones, a.zones) or 0 = 1": "meet(a.zones, a.zones)", "meet(a.zones, a.zones)": "meet(a.zones, a.zones)",
		"a.sex = 1 and (b.sex = 1 and (1 = 1 or a.no = 1))": "a.sex = 1 and b.sex = 1", "(a.no = 1 or 1 = 2) and (1 = 2 or b.no = 2)": "a.no = 1 and b.no = 2",
	} {
		e, err := rules.Fold(parse(t, text))
		if err != api.OK || print(t, e) != want {
			t.Error(text, e, err)
		}
	}
	for _, x := range [][2]api.Expr{{number(5), number(5)}, {field(17), field(17)}, {node(api.MeasureO, 3), node(api.MeasureO, 3)}, {node(api.AddO, 0, number(1), number(2)), number(3)}, {node(api.MulO, 0, number(1), field(2)), node(api.MulO, 0, number(1), field(2))}} {
		if e, err := rules.Fold(x[0]); !same(e, x[1]) || err != api.OK {
			t.Error(x[0], e, err)
		}
	}
}

// aConstant returns a condition with many numbers in it, so that much of it can be folded.
func aConstant(x *noise, depth int) api.Expr {
	e := aCondition(x, depth)
	var thin func(e api.Expr) api.Expr
	thin = func(e api.Expr) api.Expr {
		if (e.Op == api.FieldO && e.N < 16 || e.Op == api.MeasureO) && x.below(5) > 0 {
			return number(x.from(-3, 6))
		}
		for i := range e.L {
			e.L[i] = thin(e.L[i])
		}
		return e
	}
	return thin(e)
}

// P3.10: what Fold returns is surely true, or surely false, of the same finds; Fold of it is the same, and it has no more nodes.
func TestFoldIsTrue(t *testing.T) {
	x := noise(7)
	less := 0
	for range 6000 {
		e := aConstant(&x, x.from(2, 6))
		d, err := rules.Fold(e)
		if rules.Check(e) != api.OK {
			if !zero(d) || err != api.ErrType {
				t.Fatal(e, d, err)
			}
			continue
		}
		if rules.Check(d) != api.OK || err != api.OK {
			t.Fatal(print(t, e), d, err)
		}
		before, _ := rules.Size(e)
		after, _ := rules.Size(d)
		if f, err := rules.Fold(d); !same(f, d) || after > before || err != api.OK {
			t.Fatal(print(t, e), print(t, d))
		}
		if after < before {
			less++
		}
		a, b := aFind(&x), aFind(&x)
		is, not, _ := rules.Eval(e, a, b)
		if also, neither, _ := rules.Eval(d, a, b); is != also || not != neither {
			t.Fatal(print(t, e), print(t, d), is, not)
		}
		if isFoldable(d) {
			t.Fatal(print(t, e), print(t, d))
		}
	}
	if less < 2000 {
		t.Error(less)
	}
}

// isFoldable reports whether something in e is left that the chapter folds.
func isFoldable(e api.Expr) bool {
	numbers := len(e.L) == 2 && e.L[0].Op == api.NumberO && e.L[1].Op == api.NumberO
	constant := func(e api.Expr) bool { return same(e, yes()) || same(e, no()) }
	switch e.Op {
	case api.AddO, api.SubO, api.MulO:
		if numbers {
			n := map[int]int{api.AddO: e.L[0].N + e.L[1].N, api.SubO: e.L[0].N - e.L[1].N, api.MulO: e.L[0].N * e.L[1].N}[e.Op]
			return n >= -1000000 && n <= 1000000
		}
	case api.LessO, api.EqualO, api.WithinO:
		return numbers && !constant(e)
	case api.AndO, api.OrO:
		return constant(e.L[0]) || constant(e.L[1]) || isFoldable(e.L[0]) || isFoldable(e.L[1])
	case api.NotO:
		return constant(e.L[0]) || e.L[0].Op == api.NotO || isFoldable(e.L[0])
	}
	return slices.ContainsFunc(e.L, isFoldable)
}

// P3.2: what is not valid.
func TestErrorsOfChanges(t *testing.T) {
	for i, e := range []api.Expr{{}, field(18), number(1000001), node(api.AndO, 0, number(1), number(1)), node(api.NotO, 0), deep(17), chain(65), node(api.NotO, 1, yes()), node(api.AddO, 0, number(1), field(16)), {Op: api.NumberO, L: []api.Expr{number(1)}}, {Op: 99}} {
		if l, err := rules.Fields(e); len(l) != 0 || err != api.ErrType {
			t.Error(i, l, err)
		}
		for _, f := range []func(api.Expr) (api.Expr, api.Errno){rules.Swap, rules.Fold} {
			if d, err := f(e); !zero(d) || err != api.ErrType {
				t.Error(i, d, err)
			}
		}
		if s, err := rules.Print(e); s != "" || err != api.ErrType {
			t.Error(i, s, err)
		}
	}
}

// scribble writes into all the memory of an expression.
func scribble(e api.Expr) {
	for i := range e.L {
		scribble(e.L[i])
		e.L[i] = node(99, 99, field(99))
	}
}

// clone returns an expression that shares no memory with e.
func clone(e api.Expr) api.Expr {
	e.L = slices.Clone(e.L)
	for i := range e.L {
		e.L[i] = clone(e.L[i])
	}
	return e
}

// P3.2: what is returned is new memory, and what is given stays as it was.
func TestNewExpressions(t *testing.T) {
	x := noise(8)
	for range 500 {
		e := aConstant(&x, x.from(2, 5))
		if rules.Check(e) != api.OK {
			continue
		}
		before := clone(e)
		for _, f := range []func(api.Expr) (api.Expr, api.Errno){rules.Swap, rules.Fold} {
			d, _ := f(e)
			want := clone(d)
			if scribble(d); !same(e, before) {
				t.Fatal(before)
			}
			d, _ = f(e)
			given := clone(e)
			d2, _ := f(given)
			if scribble(given); !same(d, want) || !same(d2, want) {
				t.Fatal(before)
			}
			if len(d.L) == 2 { // no two lists of one result are the same memory
				second := clone(d.L[1])
				if scribble(d.L[0]); !same(d.L[1], second) {
					t.Fatal(before)
				}
			}
		}
		a, b := aFind(&x), aFind(&x)
		rules.Eval(e, a, b)
		rules.Exact(e, a, b)
		rules.Fields(e)
		rules.Print(e)
		if rules.Size(e); !same(e, before) {
			t.Fatal(before)
		}
	}
}
