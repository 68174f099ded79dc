package plan

import "bonehouse/api"

const maxBound = 1 << 20 // how great a number of a bound can be

// costs is what each set of worlds costs.
type costs struct {
	of func(worlds set) int // never, if it has twins
}

// with returns what it costs to do a trial in some worlds, and then what the dearest of its outcomes leaves.
func (c costs) with(t *trial, worlds set) int {
	most := 0
	for _, left := range t.left(worlds) {
		most = max(most, c.of(left))
	}
	if most == never {
		return never
	}
	return t.cost + most
}

// choice returns the trial with which it costs least to decide the claim in worlds in which it is not decided; none, which costs never, if they have twins.
func (x *problem) choice(c costs, worlds set) best[int] {
	first := cheapest[int]()
	for n := range x.trials {
		if t := &x.trials[n]; t.tells(worlds) {
			first.see(n, c.with(t, worlds))
		}
	}
	return first
}

// least returns the least costs of the sets of worlds.
func (x *problem) least() costs {
	table := make([]int, x.all+1)
	c := costs{of: func(worlds set) int { return table[worlds] }}
	for worlds := range x.all + 1 {
		// What is left of worlds that were told apart is a lesser number than these, and known already.
		if !x.isDecided(worlds) {
			table[worlds] = x.choice(c, worlds).cost
		}
	}
	return c
}

// Cost returns the least cost of all worlds, and whether there is one.
func Cost(p api.Problem) (int, bool, api.Errno) {
	x, err := open(p)
	if err != api.OK {
		return 0, false, err
	}
	cost := x.least().of(x.all)
	if cost == never {
		return 0, false, api.OK
	}
	return cost, true, api.OK
}

// Answer returns the outcome of a trial that leaves most to be done, for worlds that are left; ErrNone if none are.
func Answer(p api.Problem, worlds api.Set, trial int) (int, api.Errno) {
	x, some, err := openWith(p, worlds)
	if err != api.OK {
		return 0, err
	}
	if !x.hasTrial(trial) {
		return 0, api.ErrArg
	}
	if some == 0 {
		return 0, api.ErrNone
	}
	least, most := x.least(), dearest[int]()
	for outcome, left := range x.trials[trial].left(some) {
		most.see(outcome, least.of(left))
	}
	return most.item, api.OK
}

// Bound returns the least costs of all sets of worlds, and whether there are no twins.
func Bound(p api.Problem) ([]int, bool, api.Errno) {
	x, err := open(p)
	if err != api.OK {
		return nil, false, err
	}
	least := x.least()
	if least.of(x.all) == never {
		return nil, false, api.OK
	}
	var l []int
	for worlds := range x.all + 1 {
		l = append(l, least.of(worlds))
	}
	return l, true, api.OK
}

// isBound reports whether a list is a bound.
func (x *problem) isBound(l []int) bool {
	return len(l) == int(x.all)+1 && areAll(l, func(n int) bool { return isFromTo(n, 0, maxBound) })
}

// holdsFor reports whether a bound holds for some worlds.
func (x *problem) holdsFor(bound costs, worlds set) bool {
	if x.isDecided(worlds) {
		return bound.of(worlds) == 0
	}
	for n := range x.trials {
		if bound.of(worlds) > bound.with(&x.trials[n], worlds) {
			return false
		}
	}
	return true
}

// CheckBound returns ErrTree unless a bound holds, and is at least cost for all worlds.
func CheckBound(p api.Problem, bound []int, cost int) api.Errno {
	x, err := open(p)
	if err != api.OK {
		return err
	}
	if !x.isBound(bound) {
		return api.ErrArg
	}
	c := costs{of: func(worlds set) int { return bound[worlds] }}
	for worlds := range x.all + 1 {
		if !x.holdsFor(c, worlds) {
			return api.ErrTree
		}
	}
	if c.of(x.all) < cost {
		return api.ErrTree
	}
	return api.OK
}
