package rules_test

import (
	"slices"
	"strconv"
	"testing"

	"bonehouse/api"
	"bonehouse/finds"
	"bonehouse/rules"
)

// noise is a row of numbers that is the same in each run.
type noise uint64

func (x *noise) next() uint64 {
	*x += 0x9e3779b97f4a7c15
	z := uint64(*x)
	z = (z ^ z>>30) * 0xbf58476d1ce4e5b9
	z = (z ^ z>>27) * 0x94d049bb133111eb
	return z ^ z>>31
}

// below returns a number from 0 to n - 1.
func (x *noise) below(n int) int { return int(x.next() % uint64(n)) }

// from returns a number from lo to hi.
func (x *noise) from(lo, hi int) int { return lo + x.below(hi-lo+1) }

// one returns one of the numbers.
func (x *noise) one(l ...int) int { return l[x.below(len(l))] }

// node, number and field return expressions.

func node(op, n int, l ...api.Expr) api.Expr { return api.Expr{Op: op, N: n, L: l} }

func number(n int) api.Expr { return node(api.NumberO, n) }

func field(n int) api.Expr { return node(api.FieldO, n) }

// yes and no are the conditions that the chapter calls true and false.

func yes() api.Expr { return node(api.EqualO, 0, number(0), number(0)) }

func no() api.Expr { return node(api.EqualO, 0, number(0), number(1)) }

// same reports whether two expressions are equal.
func same(d, e api.Expr) bool { return d.Op == e.Op && d.N == e.N && slices.EqualFunc(d.L, e.L, same) }

// zero reports whether e is the zero value.
func zero(e api.Expr) bool { return same(e, api.Expr{}) }

// parse returns the condition with a text.
func parse(t testing.TB, s string) api.Expr {
	t.Helper()
	e, err := rules.Parse(s)
	if err != api.OK {
		t.Fatal(s, err)
	}
	return e
}

// print returns the text of a valid expression.
func print(t testing.TB, e api.Expr) string {
	t.Helper()
	s, err := rules.Print(e)
	if err != api.OK {
		t.Fatal(e, err)
	}
	return s
}

// left and either are the finds a and b of the chapter's examples.

func left() api.Find {
	return api.Find{No: 1, Element: 12, Side: api.LeftS, Zones: api.Set{6}, Age: api.Span{Lo: 20, Hi: 30}, Measures: []api.Measure{{Kind: 3, Value: 400, Error: 5}}}
}

func either() api.Find {
	return api.Find{No: 2, Element: 12, Side: api.EitherS, Zones: api.Set{20}, Age: api.Span{Lo: 35, Hi: 50}, Measures: []api.Measure{{Kind: 3, Value: 450, Error: 5}}}
}

// bad is not a find.
func bad() api.Find {
	f := left()
	f.Wear = 8
	return f
}

// aFind returns a find of few possible values, so that conditions are often true and often false.
func aFind(x *noise) api.Find {
	f := api.Find{No: x.below(4), Element: x.one(0, 9, 10, 12), Zones: api.Set{1 + x.next()%15}, Sex: x.below(5), Wear: x.below(3), Layer: x.below(3), Square: x.below(3)}
	if f.Element >= 10 {
		f.Side = x.from(1, 3)
	}
	f.Age.Lo = x.below(8)
	f.Age.Hi = f.Age.Lo + x.one(0, 1, 5)
	for kind := range 3 {
		if x.below(3) > 0 {
			f.Measures = append(f.Measures, api.Measure{Kind: kind, Value: x.below(8), Error: x.one(0, 1, 4)})
		}
	}
	return f
}

// aSharper returns a find that is at least as sharp as f; if exact, one of which all is exactly known, with all the measurements that a condition can ask for here.
func aSharper(x *noise, f api.Find, exact bool) api.Find {
	if f.Side == api.EitherS && (exact || x.below(2) == 0) {
		f.Side = x.from(1, 2)
	}
	if f.Sex != api.FemaleX && f.Sex != api.MaleX && (exact || x.below(2) == 0) {
		f.Sex = x.one(api.FemaleX, api.MaleX)
	}
	f.Age.Lo = x.from(f.Age.Lo, f.Age.Hi)
	f.Age.Hi = x.from(f.Age.Lo, f.Age.Hi)
	if exact {
		f.Age.Hi = f.Age.Lo
	}
	var l []api.Measure
	for kind := range 3 {
		i := slices.IndexFunc(f.Measures, func(m api.Measure) bool { return m.Kind == kind })
		m := api.Measure{Kind: kind, Value: x.below(8), Error: x.below(2)}
		if i >= 0 {
			m = f.Measures[i]
			value := max(0, x.from(m.Value-m.Error, m.Value+m.Error)) // a value is not below 0, but 0 is in each span that begins there
			m.Error = x.from(0, m.Error-max(value-m.Value, m.Value-value))
			m.Value = value
		}
		if exact {
			m.Error = 0
		}
		if i >= 0 || exact || x.below(2) == 0 {
			l = append(l, m)
		}
	}
	f.Measures = l
	return f
}

// aNumber returns an expression of the type number, at most so deep.
func aNumber(x *noise, depth int) api.Expr {
	if depth <= 1 || x.below(2) == 0 {
		switch x.below(3) {
		case 0:
			return number(x.from(-4, 8))
		case 1:
			return field(x.below(16))
		}
		return node(api.MeasureO, x.below(6))
	}
	return node(x.one(api.AddO, api.SubO, api.MulO), 0, aNumber(x, depth-1), aNumber(x, depth-1))
}

// aSet returns an expression of the type set.
func aSet(x *noise) api.Expr { return field(x.from(16, 17)) }

// aCondition returns a condition that is at most so deep, at least 2.
func aCondition(x *noise, depth int) api.Expr {
	if depth > 2 && x.below(3) > 0 {
		switch x.below(3) {
		case 0:
			return node(api.AndO, 0, aCondition(x, depth-1), aCondition(x, depth-1))
		case 1:
			return node(api.OrO, 0, aCondition(x, depth-1), aCondition(x, depth-1))
		}
		return node(api.NotO, 0, aCondition(x, depth-1))
	}
	switch x.below(6) {
	case 0:
		return node(api.MeetO, 0, aSet(x), aSet(x))
	case 1:
		return node(api.WithinO, x.below(8), aNumber(x, depth-1), aNumber(x, depth-1))
	case 2:
		return node(api.KnownO, x.below(6))
	case 3, 4:
		return node(api.LessO, 0, aNumber(x, depth-1), aNumber(x, depth-1))
	}
	return node(api.EqualO, 0, aNumber(x, min(depth-1, 2)), aNumber(x, 1))
}

// conditions returns valid conditions of all kinds.
func conditions(t testing.TB, x *noise, count int) []api.Expr {
	t.Helper()
	var l []api.Expr
	for len(l) < count {
		if e := aCondition(x, x.from(2, 6)); rules.Check(e) == api.OK {
			l = append(l, e)
		}
	}
	return l
}

// What follows is the chapter's meaning of an expression, by the possible values one after the other.

// state is what is known of a truth.
type state int

const (
	open state = iota
	surely
	never
)

// choices returns the possible values of a field or a measurement, by the words of the chapter; none if a measurement is missing.
func choices(f api.Find, name string) []int {
	switch name {
	case "no":
		return []int{f.No}
	case "element":
		return []int{f.Element}
	case "side":
		return [][]int{{0}, {1}, {2}, {1, 2}}[f.Side]
	case "age":
		return upTo(f.Age.Lo, f.Age.Hi)
	case "sex":
		return [][]int{{1, 2}, {1}, {1, 2}, {1, 2}, {2}}[f.Sex]
	case "wear":
		return []int{f.Wear}
	case "layer":
		return []int{f.Layer}
	case "square":
		return []int{f.Square}
	}
	for _, m := range f.Measures {
		if "m"+strconv.Itoa(m.Kind) == name {
			return upTo(m.Value-m.Error, m.Value+m.Error)
		}
	}
	return nil
}

// upTo returns the numbers from lo to hi.
func upTo(lo, hi int) []int {
	var l []int
	for n := lo; n <= hi; n++ {
		l = append(l, n)
	}
	return l
}

// fieldNames has the words of the fields.
func fieldNames() []string {
	return []string{"no", "element", "side", "age", "sex", "wear", "layer", "square", "zones"}
}

// values returns the possible values of a number, all of them from the least to the greatest one; none if there is nothing.
func values(e api.Expr, a, b api.Find) []int {
	f := a
	if e.N%2 != 0 {
		f = b
	}
	switch e.Op {
	case api.NumberO:
		return []int{e.N}
	case api.FieldO:
		return choices(f, fieldNames()[e.N/2])
	case api.MeasureO:
		return choices(f, "m"+strconv.Itoa(e.N/2))
	}
	var all []int
	for _, m := range values(e.L[0], a, b) {
		for _, n := range values(e.L[1], a, b) {
			switch e.Op {
			case api.AddO:
				all = append(all, m+n)
			case api.SubO:
				all = append(all, m-n)
			case api.MulO:
				all = append(all, m*n)
			}
		}
	}
	if len(all) == 0 {
		return nil
	}
	return upTo(slices.Min(all), slices.Max(all))
}

// truthOf returns what is known of a condition.
func truthOf(e api.Expr, a, b api.Find) state {
	switch e.Op {
	case api.AndO, api.OrO:
		x, y := truthOf(e.L[0], a, b), truthOf(e.L[1], a, b)
		decides := map[int]state{api.AndO: never, api.OrO: surely}[e.Op]
		if x == decides || y == decides {
			return decides
		}
		if x == y {
			return x
		}
		return open
	case api.NotO:
		return map[state]state{open: open, surely: never, never: surely}[truthOf(e.L[0], a, b)]
	case api.KnownO:
		f := [2]api.Find{a, b}[e.N%2]
		if choices(f, "m"+strconv.Itoa(e.N/2)) != nil {
			return surely
		}
		return open
	case api.MeetO:
		for zone := range 256 {
			if hasZone(e.L[0], a, b, zone) && hasZone(e.L[1], a, b, zone) {
				return surely
			}
		}
		return never
	}
	return compared(e, values(e.L[0], a, b), values(e.L[1], a, b))
}

// hasZone reports whether a zone is in a set of an expression.
func hasZone(e api.Expr, a, b api.Find, zone int) bool {
	return [2]api.Find{a, b}[e.N%2].Zones[zone/64]>>(zone%64)&1 == 1
}

// compared returns what is known of a comparison of numbers of which these are the possible values.
func compared(e api.Expr, first, second []int) state {
	is, not := 0, 0
	for _, m := range first {
		for _, n := range second {
			if e.Op == api.LessO && m < n || e.Op == api.EqualO && m == n || e.Op == api.WithinO && max(m-n, n-m) <= e.N {
				is++
			} else {
				not++
			}
		}
	}
	switch {
	case is > 0 && not == 0:
		return surely
	case not > 0 && is == 0:
		return never
	}
	return open
}

// isSmall reports whether the possible values of all numbers of e are few enough to go through them.
func isSmall(e api.Expr, a, b api.Find) bool {
	for _, part := range e.L {
		if !isSmall(part, a, b) {
			return false
		}
	}
	if s, _, err := rules.Range(e, a, b); err == api.OK && s.Hi-s.Lo > 1000 {
		return false
	}
	return true
}

// aRule returns a valid rule with a text of its own.
func aRule(x *noise, text string) api.Rule {
	return api.Rule{No: x.below(4096), Name: x.below(4096), Known: x.below(api.MaxDay + 1), At: x.below(api.MaxDay + 1), Effect: x.from(1, 2), Strength: x.from(1, 100), Reviewer: x.below(4096), Text: text}
}

// aCode returns a code of few names and days.
func aCode(t testing.TB, x *noise, count int) api.Code {
	t.Helper()
	var c api.Code
	known := 0
	for i := range count {
		known += x.below(2)
		r := api.Rule{No: i, Name: x.below(4), Known: known, At: x.below(8), Gone: true}
		if x.below(4) > 0 {
			r.Gone = false
			r.Effect, r.Strength, r.Reviewer = x.from(1, 2), x.from(1, 100), x.below(4096)
			r.Text = print(t, conditions(t, x, 1)[0])
		}
		next, err := rules.Add(c, r)
		if err != api.OK {
			t.Fatal(i, r, err)
		}
		c = next
	}
	return c
}

// inForce returns the numbers of the rules that are in force, each told by itself from what the others are.
func inForce(c api.Code, day, known int) []int {
	var l []int
	for _, x := range c.Rules {
		counts := func(y api.Rule) bool { return y.Name == x.Name && y.Known <= known && y.At <= day }
		beaten := slices.ContainsFunc(c.Rules, func(y api.Rule) bool {
			return counts(y) && (y.At > x.At || y.At == x.At && y.No > x.No)
		})
		if counts(x) && !beaten && !x.Gone {
			l = append(l, x.No)
		}
	}
	return l
}

// The finds that this file makes are valid, and sharper where they should be; what it makes of them is mixed enough to tell.
func TestModel(t *testing.T) {
	x := noise(1)
	for range 2000 {
		f := aFind(&x)
		g := aSharper(&x, f, false)
		h := aSharper(&x, g, true)
		for _, f := range []api.Find{f, g, h} {
			if err := finds.CheckFind(f); err != api.OK {
				t.Fatal(f, err)
			}
		}
	}
	var count [3]int
	for _, e := range conditions(t, &x, 2000) {
		a, b := aFind(&x), aFind(&x)
		if isSmall(e, a, b) {
			count[truthOf(e, a, b)]++
		}
	}
	if slices.Min(count[:]) < 300 {
		t.Error(count)
	}
}
