package finds

import (
	"slices"

	"bonehouse/api"
	"bonehouse/bits"
)

// Joined returns the find with the number no that two finds become; ErrOrder if they cannot be joined.
func Joined(a, b api.Find, no int) (api.Find, api.Errno) {
	if err := checkBoth(a, b); err != api.OK {
		return api.Find{}, err
	}
	if !isNo(no) {
		return api.Find{}, api.ErrArg
	}
	f, is := joined(a, b, no)
	if !is {
		return api.Find{}, api.ErrOrder
	}
	return fresh(f), api.OK
}

// checkBoth returns ErrFind unless both finds are valid.
func checkBoth(a, b api.Find) api.Errno {
	if err := CheckFind(a); err != api.OK {
		return err
	}
	return CheckFind(b)
}

// joined returns what two valid finds become, and whether they can be joined.
func joined(a, b api.Find, no int) (api.Find, bool) {
	measures, agree := joinedMeasures(a.Measures, b.Measures)
	age := common(a.Age, b.Age)
	if a.Element != b.Element || !canBeOneSide(a.Side, b.Side) || bits.Meets(a.Zones, b.Zones) || age.Lo > age.Hi || !agree {
		return api.Find{}, false
	}
	f := api.Find{No: no, Element: a.Element, Side: a.Side, Zones: bits.Union(a.Zones, b.Zones), Measures: measures, Age: age, Sex: joinedSex(a.Sex, b.Sex), Wear: max(a.Wear, b.Wear), Layer: a.Layer, Square: a.Square}
	if a.Side == api.EitherS {
		f.Side = b.Side
	}
	return f, true
}

// canBeOneSide reports whether finds with these sides can be of one side.
func canBeOneSide(a, b int) bool { return a == b || a == api.EitherS || b == api.EitherS }

// common returns the numbers that are in both spans: none if Lo is greater than Hi.
func common(a, b api.Span) api.Span {
	return api.Span{Lo: max(a.Lo, b.Lo), Hi: min(a.Hi, b.Hi)}
}

// joinedMeasures returns the measurements of what two finds become, and whether they agree, and are not too many.
func joinedMeasures(a, b []api.Measure) ([]api.Measure, bool) {
	l := a
	for _, m := range b {
		i := slices.IndexFunc(a, func(x api.Measure) bool { return x.Kind == m.Kind })
		if i >= 0 {
			both := common(spanOf(a[i]), spanOf(m))
			if both.Lo > both.Hi {
				return nil, false
			}
			m.Error = (both.Hi - both.Lo + 1) / 2
			m.Value = both.Lo + m.Error
		}
		l = withMeasure(l, m)
	}
	return l, len(l) <= api.MaxMeasures
}

// spanOf returns the span of m.
func spanOf(m api.Measure) api.Span {
	return api.Span{Lo: m.Value - m.Error, Hi: m.Value + m.Error}
}

// joinedSex returns the sex of what two finds become.
func joinedSex(a, b int) int {
	if isFemale(a) && isMale(b) || isMale(a) && isFemale(b) {
		return api.UnknownX
	}
	for _, sex := range []int{api.FemaleX, api.MaleX, api.MaybeFemaleX, api.MaybeMaleX} {
		if a == sex || b == sex {
			return sex
		}
	}
	return api.UnknownX
}

// isFemale reports whether a sex is female, or maybe so.
func isFemale(sex int) bool { return sex == api.FemaleX || sex == api.MaybeFemaleX }

// isMale reports whether a sex is male, or maybe so.
func isMale(sex int) bool { return sex == api.MaleX || sex == api.MaybeMaleX }

// Overlap reports whether two finds have a common zone that one person has only once.
func Overlap(a, b api.Find) (bool, api.Errno) {
	if err := checkBoth(a, b); err != api.OK {
		return false, err
	}
	return a.Element == b.Element && a.Side == b.Side && a.Side != api.EitherS && bits.Meets(a.Zones, b.Zones), api.OK
}

// Sides returns the sides on which a find can be.
func Sides(f api.Find) ([]int, api.Errno) {
	if err := CheckFind(f); err != api.OK {
		return nil, err
	}
	if f.Side == api.EitherS {
		return []int{api.LeftS, api.RightS}, api.OK
	}
	return []int{f.Side}, api.OK
}
