package court

import (
	"slices"

	"bonehouse/api"
)

const nobody = -1 // instead of a family that gets a find

// parties returns the families between which a claim is decided.
func (y *claim) parties() []int {
	l := append([]int{y.Family}, y.Families...)
	return slices.DeleteFunc(l, func(family int) bool { return slices.Contains(y.withdrawn, family) })
}

// winner returns the family that a claim gives the find to, if it is still to be had.
func (y *claim) winner() int {
	l := y.parties()
	if len(l) == 1 {
		return l[0]
	}
	winner, most := nobody, -1
	for _, family := range l {
		if value, is := y.best[family]; is && value > most {
			winner, most = family, value
		}
	}
	return winner
}

// due returns the claims that are to be ruled about, by their last days.
func (x *docket) due() map[int][]*claim {
	due := map[int][]*claim{}
	for _, y := range x.claims {
		if day := y.last(); day <= x.closed {
			due[day] = append(due[day], y)
		}
	}
	return due
}

// rulings returns the rulings, in their order.
func (x *docket) rulings() []api.Ruling {
	due := x.due()
	var days []int
	for day := range due {
		days = append(days, day)
	}
	slices.Sort(days)
	var l []api.Ruling
	given := map[int]bool{} // finds that a family has got
	for _, day := range days {
		for _, y := range due[day] {
			r := api.Ruling{Claim: y.No, Day: day, Find: y.Find, Family: nobody}
			if !given[y.Find] {
				r.Family = y.winner()
				given[y.Find] = r.Family != nobody
			}
			l = append(l, r)
		}
	}
	return l
}

// Rulings returns the rulings, in the order in which they were given.
func Rulings(c api.Court) ([]api.Ruling, api.Errno) {
	if err := Check(c); err != api.OK {
		return nil, err
	}
	return open(c).rulings(), api.OK
}
