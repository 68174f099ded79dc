package plan_test

import (
	"slices"
	"testing"

	"bonehouse/api"
	"bonehouse/plan"
)

// sumOf returns what some trials cost together.
func sumOf(p api.Problem, trials []int) int {
	sum := 0
	for _, n := range trials {
		sum += p.Trials[n].Cost
	}
	return sum
}

// P7.6: the chapter's problem with other costs, and sets of trials of which several cost least.
func TestFixedExamples(t *testing.T) {
	of := func(costs ...int) api.Problem {
		p := example()
		for n, cost := range costs {
			p.Trials[n].Cost = cost
		}
		return p
	}
	pair := func(trials ...api.Trial) api.Problem { return api.Problem{Claim: claim("+-"), Trials: trials} }
	for i, x := range []struct {
		p    api.Problem
		want []int
		is   bool
	}{
		{example(), []int{0}, true}, {of(6), []int{0}, true}, {of(7), []int{0}, true}, {of(8), []int{1, 2}, true}, {of(0, 0, 0), []int{0}, true}, {of(1, 0, 0), []int{1, 2}, true}, {of(10000, 10000, 10000), []int{0}, true},
		{api.Problem{Claim: claim("+-")}, nil, false}, {api.Problem{Claim: claim("++")}, nil, true}, {api.Problem{Claim: claim("-")}, nil, true}, {api.Problem{Claim: claim("++"), Trials: []api.Trial{trial(0, 0, 1)}}, nil, true},
		{pair(trial(0, 1, 1)), nil, false}, {pair(trial(0, 1, 1), trial(3, 1, 2)), []int{1}, true}, {pair(trial(3, 0, 1), trial(2, 0, 1), trial(2, 1, 0)), []int{1}, true}, {pair(trial(2, 7, 0), trial(2, 0, 1)), []int{0}, true},
		// Each of these tells the world 0 from the world 2, from the world 1, from both, and from the world 2.
		{api.Problem{Claim: claim("+--"), Trials: []api.Trial{trial(1, 0, 0, 1), trial(1, 1, 0, 1), trial(1, 1, 0, 0), trial(0, 1, 1, 0)}}, []int{2}, true},
		{api.Problem{Claim: claim("+--"), Trials: []api.Trial{trial(1, 0, 0, 1), trial(1, 1, 0, 1), trial(2, 1, 0, 0), trial(1, 1, 1, 0)}}, []int{0, 1}, true},
		{api.Problem{Claim: claim("+--"), Trials: []api.Trial{trial(1, 0, 0, 1), trial(1, 1, 0, 1), trial(2, 1, 0, 0), trial(0, 1, 1, 0)}}, []int{1, 3}, true},
		{api.Problem{Claim: claim("+--"), Trials: []api.Trial{trial(0, 0, 0, 1), trial(1, 1, 0, 1), trial(1, 1, 0, 0), trial(0, 1, 1, 0)}}, []int{0, 1}, true},
	} {
		l, is, err := plan.Fixed(x.p)
		if !slices.Equal(l, x.want) || is != x.is || err != api.OK {
			t.Error(i, l, is, err)
		}
	}
}

// P7.6: of all sets of trials that tell all apart the cheapest one, and of several the first.
func TestFixed(t *testing.T) {
	seen := map[bool]int{}
	for _, p := range slices.Concat(few(41, 1500), large(42, 60)) {
		if len(p.Trials) > 11 {
			continue
		}
		kept := copiedProblem(p)
		var want []int
		some := false
		for _, trials := range sets(len(p.Trials)) { // by the sums of 2^i
			if areTold(p, trials, numbers(len(p.Claim))) && (!some || sumOf(p, trials) < sumOf(p, want)) {
				want, some = trials, true
			}
		}
		if l, is, err := plan.Fixed(p); !slices.Equal(l, want) || is != some || err != api.OK || !sameProblem(p, kept) {
			t.Fatal(p, l, is, err, want)
		}
		seen[some]++
	}
	if min(seen[false], seen[true]) < 300 {
		t.Error(seen)
	}
}

// P7.6: 16 trials, each of which is needed or all of which are as good.
func TestFixedOfMany(t *testing.T) {
	needed := api.Problem{Claim: claim("+-----------")}
	for n := range 16 {
		outcomes := make([]int, 12)
		outcomes[1+n%11] = 1
		needed.Trials = append(needed.Trials, trial(n, outcomes...))
	}
	if l, is, err := plan.Fixed(needed); !slices.Equal(l, numbers(11)) || !is || err != api.OK {
		t.Error(l, is, err)
	}
	slices.Reverse(needed.Trials)
	if l, is, err := plan.Fixed(needed); !slices.Equal(l, []int{5, 6, 7, 8, 9, 10, 11, 12, 13, 14, 15}) || !is || err != api.OK {
		t.Error(l, is, err)
	}
	alike := api.Problem{Claim: claim("+-+-+-+-+-+-")}
	for range 16 {
		alike.Trials = append(alike.Trials, trial(10000, 0, 1, 0, 2, 0, 3, 0, 4, 0, 5, 0, 6))
	}
	if l, is, err := plan.Fixed(alike); !slices.Equal(l, []int{0}) || !is || err != api.OK {
		t.Error(l, is, err)
	}
	alike.Trials[15].Cost = 9999
	if l, is, err := plan.Fixed(alike); !slices.Equal(l, []int{15}) || !is || err != api.OK {
		t.Error(l, is, err)
	}
}

// P7.11: the trials of Fixed cost at least what Cost returns, and no more than any trials that tell all apart.
func TestFixedCost(t *testing.T) {
	x := noise(43)
	for _, p := range slices.Concat(few(44, 400), large(45, 40)) {
		all := numbers(len(p.Claim))
		l, is, err := plan.Fixed(p)
		if is == hasTwins(p, all) || err != api.OK {
			t.Fatal(p, l, is, err)
		}
		if !is {
			continue
		}
		if !areTold(p, l, all) || sumOf(p, l) < costOf(t, p) {
			t.Fatal(p, l)
		}
		for range 100 {
			some := x.order(len(p.Trials))[:x.below(len(p.Trials)+1)]
			if areTold(p, some, all) && sumOf(p, some) < sumOf(p, l) {
				t.Fatal(p, l, some)
			}
		}
	}
}
