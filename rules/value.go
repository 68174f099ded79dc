package rules

import (
	"slices"

	"bonehouse/api"
	"bonehouse/finds"
)

// pair is the finds a and b of which something is asked.
type pair [2]api.Find

// truth is what is known of a truth: it is open if neither is so.
type truth struct{ is, not bool }

// numberOf tells the possible values of a number, and whether it has any.
type numberOf func(p *pair) (api.Span, bool)

// setOf tells a set.
type setOf func(p *pair) api.Set

// truthOf tells what is known of a truth.
type truthOf func(p *pair) truth

// Range returns the span of the possible values of e, and whether it has any; ErrType unless it is a valid expression of the type number.
func Range(e api.Expr, a, b api.Find) (api.Span, bool, api.Errno) {
	if err := checkType(e, numberType); err != api.OK {
		return api.Span{}, false, err
	}
	if err := checkBoth(a, b); err != api.OK {
		return api.Span{}, false, err
	}
	s, is := numberIn(e)(&pair{a, b})
	return s, is, api.OK
}

// Eval reports whether a condition is surely true, and whether it is surely false.
func Eval(e api.Expr, a, b api.Find) (bool, bool, api.Errno) {
	if err := checkType(e, truthType); err != api.OK {
		return false, false, err
	}
	if err := checkBoth(a, b); err != api.OK {
		return false, false, err
	}
	t := truthIn(e)(&pair{a, b})
	return t.is, t.not, api.OK
}

// Exact reports whether a condition is true of finds of which all that it asks for is exactly known; ErrNone if a measurement is missing, ErrArg if something has more than one possible value.
func Exact(e api.Expr, a, b api.Find) (bool, api.Errno) {
	is, _, err := Eval(e, a, b)
	if err != api.OK {
		return false, err
	}
	p := pair{a, b}
	several := false
	for _, n := range fields(e) {
		s, has := p.asked(n)
		if !has {
			return false, api.ErrNone
		}
		several = several || s.Lo < s.Hi
	}
	if several {
		return false, api.ErrArg
	}
	return is, api.OK
}

// asked returns the possible values of what has the number n among what Fields returns, and whether there are any. Zones are exactly known: they count as one value.
func (p *pair) asked(n int) (api.Span, bool) {
	if n >= measuresFrom {
		n -= measuresFrom
		return measured(p[n%2], n/2)
	}
	return fieldSpan(p[n%2], n/2), true
}

// checkBoth returns ErrFind unless both finds are valid.
func checkBoth(a, b api.Find) api.Errno {
	if err := finds.CheckFind(a); err != api.OK {
		return err
	}
	return finds.CheckFind(b)
}

// exactly returns the span of n alone.
func exactly(n int) api.Span { return api.Span{Lo: n, Hi: n} }

// fieldSpan returns the possible values of a field of f that is a number.
func fieldSpan(f api.Find, field int) api.Span {
	switch field {
	case noField:
		return exactly(f.No)
	case elementField:
		return exactly(f.Element)
	case sideField:
		return sideSpan(f.Side)
	case ageField:
		return f.Age
	case sexField:
		return sexSpan(f.Sex)
	case wearField:
		return exactly(f.Wear)
	case layerField:
		return exactly(f.Layer)
	case squareField:
		return exactly(f.Square)
	}
	return api.Span{}
}

// sideSpan returns the possible sides of a find with a side.
func sideSpan(side int) api.Span {
	if side == api.EitherS {
		return api.Span{Lo: api.LeftS, Hi: api.RightS}
	}
	return exactly(side)
}

// sexSpan returns the possible sexes of a find with a sex. One that is only likely is not known.
func sexSpan(sex int) api.Span {
	switch sex {
	case api.FemaleX:
		return exactly(female)
	case api.MaleX:
		return exactly(male)
	}
	return api.Span{Lo: female, Hi: male}
}

// measured returns the possible values of the measurement of f of a kind, and whether it has one.
func measured(f api.Find, kind int) (api.Span, bool) {
	for _, m := range f.Measures {
		if m.Kind == kind {
			return api.Span{Lo: m.Value - m.Error, Hi: m.Value + m.Error}, true
		}
	}
	return api.Span{}, false
}

// numberIn returns what tells the number that a valid expression is.
func numberIn(e api.Expr) numberOf {
	which, what := e.N%2, e.N/2
	switch e.Op {
	case api.NumberO:
		return func(*pair) (api.Span, bool) { return exactly(e.N), true }
	case api.FieldO:
		return func(p *pair) (api.Span, bool) { return fieldSpan(p[which], what), true }
	case api.MeasureO:
		return func(p *pair) (api.Span, bool) { return measured(p[which], what) }
	}
	first, second, become := numberIn(e.L[0]), numberIn(e.L[1]), arithmetic(e.Op)
	return func(p *pair) (api.Span, bool) {
		x, has := first(p)
		y, also := second(p)
		if !has || !also {
			return api.Span{}, false
		}
		return become(x, y), true
	}
}

// arithmetic returns what makes the possible values of a sum, a difference or a product.
func arithmetic(op int) func(x, y api.Span) api.Span {
	switch op {
	case api.AddO:
		return func(x, y api.Span) api.Span { return api.Span{Lo: x.Lo + y.Lo, Hi: x.Hi + y.Hi} }
	case api.SubO:
		return func(x, y api.Span) api.Span { return api.Span{Lo: x.Lo - y.Hi, Hi: x.Hi - y.Lo} }
	}
	return func(x, y api.Span) api.Span {
		ends := []int{x.Lo * y.Lo, x.Lo * y.Hi, x.Hi * y.Lo, x.Hi * y.Hi}
		return api.Span{Lo: slices.Min(ends), Hi: slices.Max(ends)}
	}
}

// zonesIn returns what tells the set that a valid expression is.
func zonesIn(e api.Expr) setOf {
	which := e.N % 2
	return func(p *pair) api.Set { return p[which].Zones }
}

// truthIn returns what tells the truth of a condition.
func truthIn(e api.Expr) truthOf {
	switch e.Op {
	case api.KnownO:
		which, kind := e.N%2, e.N/2
		return func(p *pair) truth {
			_, has := measured(p[which], kind)
			return truth{is: has}
		}
	case api.MeetO:
		first, second := zonesIn(e.L[0]), zonesIn(e.L[1])
		return func(p *pair) truth {
			is := meet(first(p), second(p))
			return truth{is: is, not: !is}
		}
	case api.NotO:
		part := truthIn(e.L[0])
		return func(p *pair) truth {
			x := part(p)
			return truth{is: x.not, not: x.is}
		}
	case api.AndO, api.OrO:
		return junction(e)
	}
	return comparisonIn(e)
}

// junction returns what tells the truth of an AndO or an OrO.
func junction(e api.Expr) truthOf {
	first, second := truthIn(e.L[0]), truthIn(e.L[1])
	if e.Op == api.AndO {
		return func(p *pair) truth {
			x, y := first(p), second(p)
			return truth{is: x.is && y.is, not: x.not || y.not}
		}
	}
	return func(p *pair) truth {
		x, y := first(p), second(p)
		return truth{is: x.is || y.is, not: x.not && y.not}
	}
}

// comparisonIn returns what tells the truth of a comparison of two numbers.
func comparisonIn(e api.Expr) truthOf {
	first, second, compare := numberIn(e.L[0]), numberIn(e.L[1]), comparison(e)
	return func(p *pair) truth {
		x, has := first(p)
		y, also := second(p)
		if !has || !also {
			return truth{}
		}
		return compare(x, y)
	}
}

// comparison returns what compares possible values as e does.
func comparison(e api.Expr) func(x, y api.Span) truth {
	switch e.Op {
	case api.LessO:
		return func(x, y api.Span) truth { return truth{is: x.Hi < y.Lo, not: x.Lo >= y.Hi} }
	case api.EqualO:
		return func(x, y api.Span) truth {
			return truth{is: x.Lo == x.Hi && x == y, not: nearest(x, y) > 0}
		}
	}
	return func(x, y api.Span) truth { return truth{is: farthest(x, y) <= e.N, not: nearest(x, y) > e.N} }
}

// nearest returns by how much a number of x and one of y differ at least.
func nearest(x, y api.Span) int { return max(0, x.Lo-y.Hi, y.Lo-x.Hi) }

// farthest returns by how much a number of x and one of y differ at most.
func farthest(x, y api.Span) int { return max(x.Hi-y.Lo, y.Hi-x.Lo) }

// meet reports whether two sets have a common number.
func meet(a, b api.Set) bool {
	for i := range a {
		if a[i]&b[i] != 0 {
			return true
		}
	}
	return false
}

// Sharper reports whether all that f can be g can be as well.
func Sharper(f, g api.Find) (bool, api.Errno) {
	if err := checkBoth(f, g); err != api.OK {
		return false, err
	}
	for field := noField; field < zonesField; field++ {
		if !within(fieldSpan(f, field), fieldSpan(g, field)) {
			return false, api.OK
		}
	}
	for _, m := range g.Measures {
		x, has := measured(f, m.Kind)
		y, _ := measured(g, m.Kind)
		if !has || !within(x, y) {
			return false, api.OK
		}
	}
	return f.Zones == g.Zones, api.OK
}

// within reports whether all of x is in y.
func within(x, y api.Span) bool { return y.Lo <= x.Lo && x.Hi <= y.Hi }
