package count

import (
	"bonehouse/api"
	"bonehouse/finds"
)

const firstPaired = 10 // from this element on, the elements of the skeleton are pairs

// tally is how many finds have a zone of an element on a side.
type tally [api.MaxElement + 1][api.MaxZone + 1][api.EitherS + 1]int

// checkFinds returns ErrFind unless all finds are valid.
func checkFinds(l []api.Find) api.Errno {
	for _, f := range l {
		if err := finds.CheckFind(f); err != api.OK {
			return err
		}
	}
	return api.OK
}

// hasZone reports whether a valid find has a zone.
func hasZone(f api.Find, zone int) bool { return f.Zones[0]>>zone&1 == 1 }

// tallyOf returns the tally of valid finds.
func tallyOf(l []api.Find) *tally {
	var t tally
	for _, f := range l {
		for zone := range t[f.Element] {
			if hasZone(f, zone) {
				t[f.Element][zone][f.Side]++
			}
		}
	}
	return &t
}

// repeat is Repeat for an element and a zone that there are.
func (t *tally) repeat(element, zone int) api.Span {
	sides := t[element][zone]
	all := 0
	for _, number := range sides {
		all += number
	}
	if element < firstPaired {
		return api.Span{Lo: all, Hi: all}
	}
	return api.Span{Lo: max(sides[api.LeftS], sides[api.RightS], (all+1)/2), Hi: all}
}

// Repeat returns, for an element and a zone, how many people there are at least by these finds alone, and how many at most.
func Repeat(l []api.Find, element, zone int) (api.Span, api.Errno) {
	if err := checkFinds(l); err != api.OK {
		return api.Span{}, err
	}
	if !isFromTo(element, 0, api.MaxElement) || !isFromTo(zone, 0, api.MaxZone) {
		return api.Span{}, api.ErrArg
	}
	return tallyOf(l).repeat(element, zone), api.OK
}

// Zones returns the element and the zone for which Repeat is greatest.
func Zones(l []api.Find) (int, int, api.Errno) {
	if err := checkFinds(l); err != api.OK {
		return 0, 0, err
	}
	if len(l) == 0 {
		return 0, 0, api.ErrNone
	}
	t := tallyOf(l)
	greatest, element, zone := 0, 0, 0
	for e := range t {
		for z := range t[e] {
			if least := t.repeat(e, z).Lo; least > greatest {
				greatest, element, zone = least, e, z
			}
		}
	}
	return element, zone, api.OK
}
