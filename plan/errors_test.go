package plan_test

import (
	"math"
	"testing"

	"bonehouse/api"
	"bonehouse/plan"
)

// question is a call of a function with a problem: whether all of its results are zero values, and its error. What a function does not ask for it leaves out.
type question struct {
	worlds, trial, outcome, world bool // whether it asks for a set of worlds, a trial, an outcome, a world
	ask                           func(p api.Problem, worlds api.Set, n int) (bool, api.Errno)
}

// questions returns all functions with a problem; n stands for each of their other numbers.
func questions() []question {
	return []question{
		{ask: func(p api.Problem, _ api.Set, _ int) (bool, api.Errno) { return true, plan.Check(p) }},
		{worlds: true, ask: func(p api.Problem, worlds api.Set, _ int) (bool, api.Errno) {
			is, so, err := plan.Decided(p, worlds)
			return !is && !so, err
		}},
		{worlds: true, trial: true, ask: func(p api.Problem, worlds api.Set, n int) (bool, api.Errno) {
			s, err := plan.After(p, worlds, n, 1)
			return s == api.Set{}, err
		}},
		{worlds: true, outcome: true, ask: func(p api.Problem, worlds api.Set, n int) (bool, api.Errno) {
			s, err := plan.After(p, worlds, 0, n)
			return s == api.Set{}, err
		}},
		{ask: func(p api.Problem, _ api.Set, _ int) (bool, api.Errno) {
			is, err := plan.Possible(p)
			return !is, err
		}},
		{ask: func(p api.Problem, _ api.Set, _ int) (bool, api.Errno) {
			pair, are, err := plan.Twins(p)
			return pair == [2]int{} && !are, err
		}},
		{worlds: true, ask: func(p api.Problem, worlds api.Set, _ int) (bool, api.Errno) {
			l, err := plan.Useful(p, worlds)
			return len(l) == 0, err
		}},
		{ask: func(p api.Problem, _ api.Set, _ int) (bool, api.Errno) {
			cost, is, err := plan.Cost(p)
			return cost == 0 && !is, err
		}},
		{ask: func(p api.Problem, _ api.Set, _ int) (bool, api.Errno) {
			l, is, err := plan.Tree(p)
			return len(l) == 0 && !is, err
		}},
		{ask: func(p api.Problem, _ api.Set, _ int) (bool, api.Errno) {
			return true, unproved(plan.CheckTree(p, nil, 0))
		}},
		{world: true, ask: func(p api.Problem, _ api.Set, n int) (bool, api.Errno) {
			l, cost, answer, err := plan.Run(p, []api.Node{leaf(true)}, n)
			return len(l) == 0 && cost == 0 && answer == (err == api.OK), err
		}},
		{worlds: true, trial: true, ask: func(p api.Problem, worlds api.Set, n int) (bool, api.Errno) {
			outcome, err := plan.Answer(p, worlds, n)
			return outcome == 0, err
		}},
		{ask: func(p api.Problem, _ api.Set, _ int) (bool, api.Errno) {
			l, is, err := plan.Bound(p)
			return len(l) == 0 && !is, err
		}},
		{ask: func(p api.Problem, _ api.Set, _ int) (bool, api.Errno) {
			return true, unproved(plan.CheckBound(p, make([]int, 1<<min(len(p.Claim), 12)), 0))
		}},
		{ask: func(p api.Problem, _ api.Set, _ int) (bool, api.Errno) {
			l, is, err := plan.Fixed(p)
			return len(l) == 0 && !is, err
		}},
	}
}

// unproved takes it for no error of the problem that something is no tree or bound of it.
func unproved(err api.Errno) api.Errno {
	if err == api.ErrTree {
		return api.OK
	}
	return err
}

// wrongProblems returns problems that are not valid.
func wrongProblems() []api.Problem {
	long := api.Problem{Claim: make([]bool, 12)}
	for range 17 {
		long.Trials = append(long.Trials, trial(1, make([]int, 12)...))
	}
	l := []api.Problem{{}, {Claim: []bool{}}, {Claim: make([]bool, 13)}, {Claim: make([]bool, 1000)}, {Trials: []api.Trial{{}}}, {Trials: example().Trials}, long, {Claim: claim("+"), Trials: make([]api.Trial, 17)}, {Claim: claim("+"), Trials: make([]api.Trial, 1)}}
	for n := range 3 {
		for _, cost := range []int{-1, 10001, math.MinInt, math.MaxInt} {
			p := example()
			p.Trials[n].Cost = cost
			l = append(l, p)
		}
		for world := range 4 {
			for _, outcome := range []int{-1, 8, 64, math.MinInt, math.MaxInt} {
				p := example()
				p.Trials[n].Outcomes[world] = outcome
				l = append(l, p)
			}
		}
		for _, outcomes := range [][]int{nil, {0, 0, 0}, {0, 0, 0, 0, 0}, {0, 1, 2, 2, 8}} {
			p := example()
			p.Trials[n].Outcomes = outcomes
			l = append(l, p)
		}
	}
	return l
}

// P7.1 to P7.6: of a problem that is not valid nothing is told, whatever else is wrong.
func TestProblemErrors(t *testing.T) {
	for k, p := range wrongProblems() {
		for i, x := range questions() {
			for _, worlds := range []api.Set{{}, {1}, {1 << 40}} {
				for _, n := range []int{-1, 0, 99} {
					if zero, err := x.ask(p, worlds, n); !zero || err != api.ErrProblem {
						t.Error(k, i, worlds, n, zero, err)
					}
				}
			}
		}
		for i, err := range []api.Errno{plan.CheckTree(p, nil, -1), plan.CheckTree(p, []api.Node{leaf(true)}, 1), plan.CheckBound(p, nil, 0), plan.CheckBound(p, []int{0, -1}, 1)} {
			if err != api.ErrProblem {
				t.Error(k, i, err)
			}
		}
		if l, cost, answer, err := plan.Run(p, nil, -1); len(l) != 0 || cost != 0 || answer || err != api.ErrProblem {
			t.Error(k, l, cost, answer, err)
		}
	}
}

// P7.1: the most that a problem can have.
func TestLargestProblem(t *testing.T) {
	p := api.Problem{Claim: make([]bool, 12)}
	for range 16 {
		p.Trials = append(p.Trials, trial(10000, 0, 1, 2, 3, 4, 5, 6, 7, 7, 6, 5, 4))
	}
	for i, x := range questions() {
		if _, err := x.ask(p, api.Set{0xfff}, 7); err != api.OK {
			t.Error(i, err)
		}
	}
	if err := plan.Check(p); err != api.OK {
		t.Error(err)
	}
	for _, q := range []api.Problem{{Claim: claim("+")}, {Claim: claim("-"), Trials: []api.Trial{trial(0, 7)}}} {
		if err := plan.Check(q); err != api.OK {
			t.Error(q, err)
		}
	}
}

// P7.1 and P7.4: sets that have numbers that are no worlds.
func TestWorldErrors(t *testing.T) {
	var wrong []api.Set
	for n := 4; n < 256; n++ {
		wrong = append(wrong, setOf([]int{n}), setOf([]int{0, 1, 2, 3, n}))
	}
	wrong = append(wrong, api.Set{math.MaxUint64, math.MaxUint64, math.MaxUint64, math.MaxUint64}, api.Set{0, 1}, api.Set{0, 0, 3})
	for i, x := range questions() {
		if !x.worlds {
			continue
		}
		for _, worlds := range wrong {
			for _, n := range []int{-1, 0, 99} {
				if zero, err := x.ask(example(), worlds, n); !zero || err != api.ErrArg {
					t.Error(i, worlds, n, zero, err)
				}
			}
		}
	}
}

// P7.1, P7.3 and P7.4: numbers that are no trial, outcome or world, also for no worlds.
func TestNumberErrors(t *testing.T) {
	for i, x := range questions() {
		most := -1 // the greatest number that is right
		switch {
		case x.trial:
			most = 2
		case x.outcome:
			most = 7
		case x.world:
			most = 3
		default:
			continue
		}
		for _, worlds := range []api.Set{{}, {4}, {15}} {
			for _, n := range []int{-1, most + 1, most + 2, 64, 256, math.MinInt, math.MaxInt} {
				if zero, err := x.ask(example(), worlds, n); !zero || err != api.ErrArg {
					t.Error(i, worlds, n, zero, err)
				}
			}
			for n := range most + 1 {
				if _, err := x.ask(example(), worlds, n); err != api.OK && (worlds != api.Set{} || err != api.ErrNone) {
					t.Error(i, worlds, n, err)
				}
			}
		}
	}
	// Without trials none is one.
	p := api.Problem{Claim: claim("+-")}
	for _, n := range []int{-1, 0, 1} {
		if _, err := plan.After(p, api.Set{3}, n, 0); err != api.ErrArg {
			t.Error(n, err)
		}
		if _, err := plan.Answer(p, api.Set{3}, n); err != api.ErrArg {
			t.Error(n, err)
		}
	}
}
