package plan

import "bonehouse/api"

// pairs is some of the pairs of worlds in which the claim differs: the bit n stands for the n-th one. (Of 12 worlds there are at most 36.)
type pairs uint64

// bundle is some trials: the bit n stands for the trial n.
type bundle uint32

// has reports whether a trial is in s.
func (s bundle) has(trial int) bool { return s>>trial&1 == 1 }

// told returns, for each trial, the pairs that it tells apart.
func told(p api.Problem, l [][2]int) []pairs {
	var by []pairs
	for _, t := range p.Trials {
		var some pairs
		for n, pair := range l {
			if tellsApart(t, pair) {
				some |= 1 << n
			}
		}
		by = append(by, some)
	}
	return by
}

// Fixed returns the cheapest trials that decide the claim in every world if all of them are done, and whether there are such.
func Fixed(p api.Problem) ([]int, bool, api.Errno) {
	if err := Check(p); err != api.OK {
		return nil, false, err
	}
	l := disputes(p)
	by, all := told(p, l), pairs(1)<<len(l)-1
	least := cheapest[bundle]()
	for some := range bundle(1) << len(p.Trials) {
		cost, apart := 0, pairs(0)
		for n, t := range p.Trials {
			if some.has(n) {
				cost += t.Cost
				apart |= by[n]
			}
		}
		if apart == all {
			least.see(some, cost)
		}
	}
	if least.cost == never {
		return nil, false, api.OK
	}
	var trials []int
	for n := range p.Trials {
		if least.item.has(n) {
			trials = append(trials, n)
		}
	}
	return trials, true, api.OK
}
