package plan

import (
	"iter"

	"bonehouse/api"
	"bonehouse/bits"
)

const outcomes = api.MaxOutcome + 1 // that a trial can have

// set is some worlds of a problem: the bit n stands for the world n.
type set uint16

// one returns the set of one world.
func one(world int) set { return 1 << world }

// list returns s as the other packages have it.
func (s set) list() api.Set { return api.Set{uint64(s)} }

// trial is a trial by its outcomes.
type trial struct {
	cost   int
	having [outcomes]set // for each outcome the worlds in which the trial has it
}

// left yields the outcomes that a trial has in some worlds, in increasing order, and what is left of these after each of them.
func (t *trial) left(worlds set) iter.Seq2[int, set] {
	return func(yield func(int, set) bool) {
		for outcome, having := range t.having {
			if worlds&having != 0 && !yield(outcome, worlds&having) {
				return
			}
		}
	}
}

// tells reports whether a trial tells some of the worlds apart.
func (t *trial) tells(worlds set) bool {
	for _, having := range t.having {
		if worlds&^having == 0 {
			return false
		}
	}
	return true
}

// problem is a valid problem by its sets of worlds.
type problem struct {
	all    set // its worlds
	truths set // those in which the claim is true
	trials []trial
}

// open returns a problem by its sets of worlds.
func open(p api.Problem) (problem, api.Errno) {
	if err := Check(p); err != api.OK {
		return problem{}, err
	}
	var x problem
	for world, is := range p.Claim {
		x.all |= one(world)
		if is {
			x.truths |= one(world)
		}
	}
	for _, t := range p.Trials {
		split := trial{cost: t.Cost}
		for world, outcome := range t.Outcomes {
			split.having[outcome] |= one(world)
		}
		x.trials = append(x.trials, split)
	}
	return x, api.OK
}

// openWith is open with a set of worlds; ErrArg unless it is one.
func openWith(p api.Problem, worlds api.Set) (problem, set, api.Errno) {
	x, err := open(p)
	if err != api.OK {
		return problem{}, 0, err
	}
	if !bits.Within(worlds, x.all.list()) {
		return problem{}, 0, api.ErrArg
	}
	return x, set(worlds[0]), api.OK
}

// hasTrial reports whether n is the index of a trial.
func (x *problem) hasTrial(n int) bool { return isFromTo(n, 0, len(x.trials)-1) }

// decided reports whether the claim is decided in some worlds, and whether it is true in all of them: not so of none.
func (x *problem) decided(worlds set) (bool, bool) {
	truths := worlds & x.truths
	return truths == 0 || truths == worlds, truths != 0 && truths == worlds
}

// isDecided reports whether the claim is decided in some worlds.
func (x *problem) isDecided(worlds set) bool {
	is, _ := x.decided(worlds)
	return is
}
