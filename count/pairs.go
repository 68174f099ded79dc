package count

import (
	"slices"

	"bonehouse/api"
)

// seen is which finds a search has come by.
type seen [api.MaxNodes]bool

// pairing is the left and the right counted finds, as indices, and with which one each is paired.
type pairing struct {
	canBe       func(left, right int) bool
	left, right []int
	of          [api.MaxNodes]int // -1: with none
}

// countedZone returns the zone of an element that most left and right finds have.
func (t *tally) countedZone(element int) int {
	most, counted := 0, 0
	for zone, sides := range t[element] {
		if number := sides[api.LeftS] + sides[api.RightS]; number > most {
			most, counted = number, zone
		}
	}
	return counted
}

// couple returns the counted finds of an element, with as many pairs as possible; the errors of what is given.
func couple(l []api.Find, g api.Graph, element int) (*pairing, api.Errno) {
	p, err := counted(l, g, element)
	if err != api.OK {
		return nil, err
	}
	for _, left := range p.left {
		var came seen
		p.pair(left, &came)
	}
	return p, api.OK
}

// counted returns the counted finds of an element, without pairs; the errors of what is given.
func counted(l []api.Find, g api.Graph, element int) (*pairing, api.Errno) {
	if err := checkFinds(l); err != api.OK {
		return nil, err
	}
	x, err := open(g)
	if err != api.OK {
		return nil, err
	}
	if len(x.of) != len(l) || !isFromTo(element, firstPaired, api.MaxElement) {
		return nil, api.ErrArg
	}
	p := &pairing{canBe: func(left, right int) bool { return !x.begin.isApart(x.of[left], x.of[right]) }}
	zone := tallyOf(l).countedZone(element)
	for i, f := range l {
		p.of[i] = -1
		if f.Element == element && hasZone(f, zone) {
			switch f.Side {
			case api.LeftS:
				p.left = append(p.left, i)
			case api.RightS:
				p.right = append(p.right, i)
			}
		}
	}
	return p, api.OK
}

// pair pairs a left find, if need be by pairing others anew, and reports whether it could. It comes by no right find again that a search came by.
func (p *pairing) pair(left int, came *seen) bool {
	for _, right := range p.right {
		if came[right] || !p.canBe(left, right) {
			continue
		}
		came[right] = true
		if p.of[right] < 0 || p.pair(p.of[right], came) {
			p.of[left], p.of[right] = right, left
			return true
		}
	}
	return false
}

// pairs returns the pairs, by increasing left finds.
func (p *pairing) pairs() [][2]int {
	var pairs [][2]int
	for _, left := range p.left {
		if p.of[left] >= 0 {
			pairs = append(pairs, [2]int{left, p.of[left]})
		}
	}
	return pairs
}

// Pairs returns as many pairs of left and right finds of an element as can be of one person each.
func Pairs(l []api.Find, g api.Graph, element int) ([][2]int, api.Errno) {
	p, err := couple(l, g, element)
	if err != api.OK {
		return nil, err
	}
	return p.pairs(), api.OK
}

// CheckPairs returns ErrParts unless these are such pairs.
func CheckPairs(l []api.Find, g api.Graph, element int, pairs [][2]int) api.Errno {
	p, err := counted(l, g, element)
	if err != api.OK {
		return err
	}
	if !p.arePairs(pairs) {
		return api.ErrParts
	}
	return api.OK
}

// arePairs reports whether these can be pairs, all of them at once, by strictly increasing left finds.
func (p *pairing) arePairs(pairs [][2]int) bool {
	last := -1
	var came seen
	for _, pair := range pairs {
		left, right := pair[0], pair[1]
		if left <= last || !slices.Contains(p.left, left) || !slices.Contains(p.right, right) || came[right] || !p.canBe(left, right) {
			return false
		}
		last, came[right] = left, true
	}
	return true
}

// Paired returns how many people there are at least by the left and right finds of an element: pairs count once.
func Paired(l []api.Find, g api.Graph, element int) (int, api.Errno) {
	p, err := couple(l, g, element)
	if err != api.OK {
		return 0, err
	}
	return len(p.left) + len(p.right) - len(p.pairs()), api.OK
}

// Lacking returns a proof that there are no more pairs: finds of which each possible pair has at least one.
func Lacking(l []api.Find, g api.Graph, element int) ([]int, api.Errno) {
	p, err := couple(l, g, element)
	if err != api.OK {
		return nil, err
	}
	// From the left finds that are left over a search comes by no right one that has no pair, as there are as many pairs as possible. So the right ones it comes by, and the left ones of all other pairs, are one of each pair, and of each that can be.
	var came seen
	for _, left := range p.left {
		if p.of[left] < 0 {
			p.pair(left, &came)
		}
	}
	var lacking []int
	for _, pair := range p.pairs() {
		if came[pair[1]] {
			lacking = append(lacking, pair[1])
		} else {
			lacking = append(lacking, pair[0])
		}
	}
	slices.Sort(lacking)
	return lacking, api.OK
}
