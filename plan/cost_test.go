package plan_test

import (
	"math"
	"slices"
	"testing"

	"bonehouse/api"
	"bonehouse/plan"
)

// P7.3: what the chapter says, and what single worlds cost.
func TestCostExamples(t *testing.T) {
	all := example().Trials
	for i, x := range []struct {
		claim  []bool
		trials []api.Trial
		want   int
	}{
		{claim("++--"), all, 5}, {claim("++--"), all[:1], 5}, {claim("++--"), all[1:], 7}, {claim("+"), nil, 0}, {claim("----"), nil, 0}, {claim("----"), all, 0}, {claim("-+"), []api.Trial{trial(0, 3, 4)}, 0}, {claim("-+"), []api.Trial{trial(9, 3, 4), trial(8, 4, 3), trial(0, 3, 3)}, 8},
		{singles(12).Claim, singles(12).Trials, 110000}, {claim("+--+"), []api.Trial{trial(2, 0, 0, 1, 1), trial(3, 0, 1, 0, 1)}, 5},
		{claim("+--+"), []api.Trial{trial(1, 0, 0, 1, 1), trial(9, 0, 1, 0, 0), trial(7, 0, 0, 0, 1)}, 10},
	} {
		p := api.Problem{Claim: x.claim, Trials: x.trials}
		if cost := costOf(t, p); cost != x.want {
			t.Error(i, cost)
		}
		if tree := treeOf(t, p); !isAccepted(p, tree, x.want) || plan.CheckTree(p, tree, x.want) != api.OK {
			t.Error(i, tree)
		}
		if l := boundOf(t, p); l[len(l)-1] != x.want || plan.CheckBound(p, l, x.want) != api.OK || plan.CheckBound(p, l, x.want+1) != api.ErrTree {
			t.Error(i, l[len(l)-1])
		}
	}
}

// P7.3, P7.5 and P7.8: Cost and Bound of all problems of up to three worlds and two trials with outcomes and costs from 0 to 2, held against all orders of trials.
func TestCostOfAll(t *testing.T) {
	seen := 0
	claims := [][]bool{claim("+"), claim("-+"), claim("--"), claim("+--"), claim("-+-"), claim("++-"), claim("+++")}
	for _, c := range claims {
		trials := []api.Trial{}
		for _, l := range rows(len(c), 3) {
			for cost := range 3 {
				trials = append(trials, trial(cost, l...))
			}
		}
		for i, a := range trials {
			for _, b := range trials[:i+1] {
				p := api.Problem{Claim: c, Trials: []api.Trial{a, b}}
				all := numbers(len(c))
				cost, is, err := plan.Cost(p)
				seen++
				if is != decides(p, all, []int{0, 1}, 4) || is && !decides(p, all, []int{0, 1}, cost) || cost > 0 && decides(p, all, []int{0, 1}, cost-1) || !is && cost != 0 || err != api.OK {
					t.Fatal(p, cost, is, err)
				}
			}
		}
	}
	if seen < 10000 {
		t.Error(seen)
	}
}

// rows returns all lists of so many numbers below n.
func rows(length, n int) [][]int {
	l := [][]int{nil}
	for range length {
		var longer [][]int
		for _, row := range l {
			for i := range n {
				longer = append(longer, append(slices.Clone(row), i))
			}
		}
		l = longer
	}
	return l
}

// P7.3, P7.5 and P7.8: of each problem the cost, a tree and a bound that are accepted with it, and none of these if there are twins.
func TestCost(t *testing.T) {
	seen := map[bool]int{}
	for i, p := range slices.Concat(few(11, 1500), large(12, 40)) {
		kept := copiedProblem(p)
		cost, is, err := plan.Cost(p)
		tree, isTree, treeErr := plan.Tree(p)
		bound, isBound, boundErr := plan.Bound(p)
		if err != api.OK || treeErr != api.OK || boundErr != api.OK || isTree != is || isBound != is || !sameProblem(p, kept) {
			t.Fatal(p, is, err, isTree, treeErr, isBound, boundErr)
		}
		seen[is]++
		all := numbers(len(p.Claim))
		if is == hasTwins(p, all) {
			t.Fatal(p, is)
		}
		if !is {
			if cost != 0 || len(tree) != 0 || len(bound) != 0 {
				t.Fatal(p, cost, tree, bound)
			}
			continue
		}
		if want := leastOf(p).of(all); cost != want {
			t.Fatal(p, cost, want)
		}
		if len(p.Claim) <= 6 && i%4 == 0 && (!decides(p, all, numbers(len(p.Trials)), cost) || cost > 0 && decides(p, all, numbers(len(p.Trials)), cost-1)) {
			t.Fatal(p, cost)
		}
		if !isAccepted(p, tree, cost) || plan.CheckTree(p, tree, cost) != api.OK || cost > 0 && plan.CheckTree(p, tree, cost-1) != api.ErrTree {
			t.Fatal(p, tree, cost)
		}
		if plan.CheckBound(p, bound, cost) != api.OK || plan.CheckBound(p, bound, cost+1) != api.ErrTree {
			t.Fatal(p, bound, cost)
		}
	}
	if min(seen[false], seen[true]) < 300 {
		t.Error(seen)
	}
}

// P7.5: Bound has the least cost of each set of worlds, at its place.
func TestBound(t *testing.T) {
	for _, p := range slices.Concat(few(13, 600), large(14, 12)) {
		if hasTwins(p, numbers(len(p.Claim))) {
			continue
		}
		least := leastOf(p)
		bound := boundOf(t, p)
		if len(bound) != 1<<len(p.Claim) {
			t.Fatal(p, bound)
		}
		for k, l := range sets(len(p.Claim)) {
			if bound[k] != least.of(l) {
				t.Fatal(p, k, l, bound[k], least.of(l))
			}
		}
	}
}

// holds reports whether a bound holds, as the chapter says it.
func holds(p api.Problem, bound []int) bool {
	for k, l := range sets(len(p.Claim)) {
		if isDecided(p, l) {
			if bound[k] != 0 {
				return false
			}
			continue
		}
		for n, x := range p.Trials {
			most := 0
			for _, outcome := range outcomesOf(p, l, n) {
				most = max(most, bound[setOf(left(p, l, n, outcome))[0]])
			}
			if bound[k] > x.Cost+most {
				return false
			}
		}
	}
	return true
}

// P7.5: CheckBound of bounds with changes, also where there are twins, held against the chapter's words.
func TestCheckBound(t *testing.T) {
	x := noise(15)
	seen := map[api.Errno]int{}
	for _, p := range few(16, 1500) {
		bound, is, err := plan.Bound(p)
		if err != api.OK {
			t.Fatal(p, err)
		}
		if !is {
			bound = make([]int, 1<<len(p.Claim))
			least := leastOf(p)
			for k, l := range sets(len(p.Claim)) {
				if bound[k] = 1 << x.below(21); !hasTwins(p, l) {
					bound[k] = least.of(l)
				}
			}
		}
		for range 8 {
			l := slices.Clone(bound)
			for range x.below(4) {
				k := x.below(len(l))
				l[k] = max(0, l[k]+x.from(-3, 1))
			}
			kept := slices.Clone(l)
			for _, cost := range []int{l[len(l)-1], l[len(l)-1] + 1, l[len(l)-1] - 1, math.MinInt, math.MaxInt} {
				want := api.ErrTree
				if holds(p, l) && cost <= l[len(l)-1] {
					want = api.OK
				}
				if l[len(l)-1] > 1<<20 || slices.Max(l) > 1<<20 {
					want = api.ErrArg
				}
				if err := plan.CheckBound(p, l, cost); err != want || !slices.Equal(l, kept) {
					t.Fatal(p, l, cost, err, want)
				}
				seen[want]++
			}
		}
	}
	if min(seen[api.OK], seen[api.ErrTree], seen[api.ErrArg]) < 50 {
		t.Error(seen)
	}
}

// P7.5: lists that are no bounds, whatever else is wrong.
func TestBoundErrors(t *testing.T) {
	p := api.Problem{Claim: claim("+--"), Trials: []api.Trial{trial(2, 0, 1, 0), trial(3, 0, 0, 1)}}
	want := []int{0, 0, 0, 2, 0, 3, 0, 5}
	if l := boundOf(t, p); !slices.Equal(l, want) {
		t.Error(l)
	}
	wrong := [][]int{nil, {}, {0}, {0, 0, 0, 0}, want[:7], append(slices.Clone(want), 0), make([]int, 16), make([]int, 4096), make([]int, 1<<20)}
	for k := range want {
		for _, n := range []int{-1, 1<<20 + 1, math.MinInt, math.MaxInt} {
			l := slices.Clone(want)
			l[k] = n
			if k > 0 {
				l[0] = 1 // does not hold either
			}
			wrong = append(wrong, l)
		}
	}
	for i, l := range wrong {
		for _, cost := range []int{0, 5, -1, math.MaxInt} {
			if err := plan.CheckBound(p, l, cost); err != api.ErrArg {
				t.Error(i, cost, err)
			}
		}
	}
	// Each number that is as great as it can be, and one more.
	for k, n := range want {
		for _, x := range []struct {
			n    int
			want api.Errno
		}{{n, api.OK}, {n + 1, api.ErrTree}, {1 << 20, api.ErrTree}, {max(0, n-1), api.OK}} {
			l := slices.Clone(want)
			l[k] = x.n
			if k < 7 && x.n < n {
				l[7] = min(2+l[5], 3+l[3])
			}
			if err := plan.CheckBound(p, l, 0); err != x.want {
				t.Error(k, x.n, err)
			}
		}
	}
	// Where nothing can be done a bound can be as great as a number of it can be.
	twins := api.Problem{Claim: claim("+-"), Trials: []api.Trial{trial(0, 1, 1)}}
	for _, cost := range []int{-1, 0, 1 << 20} {
		if err := plan.CheckBound(twins, []int{0, 0, 0, 1 << 20}, cost); err != api.OK {
			t.Error(cost, err)
		}
	}
	if err := plan.CheckBound(twins, []int{0, 0, 0, 1 << 20}, 1<<20+1); err != api.ErrTree {
		t.Error(err)
	}
}

// P7.4: the answers that leave most to be done, also where nothing helps any more.
func TestAnswerExamples(t *testing.T) {
	p := example()
	last := api.Problem{Claim: p.Claim, Trials: p.Trials[1:2]}
	twice := api.Problem{Claim: claim("-+-+-"), Trials: []api.Trial{trial(1, 5, 3, 3, 2, 2), trial(9, 0, 1, 2, 3, 4)}}
	for i, x := range []struct {
		p      api.Problem
		worlds []int
		n      int
		want   int
	}{
		{p, []int{0, 1, 2, 3}, 1, 0}, {p, []int{0, 1, 2, 3}, 0, 0}, {p, []int{2, 3}, 1, 0}, {p, []int{2}, 1, 1}, {p, []int{2}, 0, 2}, {p, []int{1, 2}, 0, 1}, {p, []int{0, 2, 3}, 1, 0}, {p, []int{1, 2, 3}, 2, 0},
		{last, []int{0, 1, 2, 3}, 0, 0}, {last, []int{2}, 0, 1}, {last, []int{0, 1, 2}, 0, 0},
		{twice, []int{0, 1, 2, 3, 4}, 0, 2}, {twice, []int{0, 1, 2, 4}, 0, 3}, {twice, []int{0, 3, 4}, 0, 2}, {twice, []int{0, 1, 3}, 0, 2}, {twice, []int{0, 1}, 0, 3}, {twice, []int{0}, 0, 5}, {twice, []int{1, 2, 3, 4}, 1, 1},
		{api.Problem{Claim: twice.Claim, Trials: twice.Trials[:1]}, []int{0, 1, 2, 3, 4}, 0, 2}, {api.Problem{Claim: twice.Claim, Trials: twice.Trials[:1]}, []int{0, 1, 2, 4}, 0, 3}, {api.Problem{Claim: twice.Claim, Trials: twice.Trials[:1]}, []int{0, 1, 4}, 0, 2},
	} {
		if outcome := answerOf(t, x.p, x.worlds, x.n); outcome != x.want {
			t.Error(i, outcome)
		}
	}
	for n := range 3 {
		if outcome, err := plan.Answer(p, api.Set{}, n); outcome != 0 || err != api.ErrNone {
			t.Error(n, outcome, err)
		}
	}
}

// P7.4: Answer of all sets of worlds, held against the chapter's words.
func TestAnswer(t *testing.T) {
	seen := map[bool]int{}
	for _, p := range few(17, 500) {
		least := leastOf(p)
		for _, l := range sets(len(p.Claim))[1:] {
			for n := range p.Trials {
				some := outcomesOf(p, l, n)
				want := slices.IndexFunc(some, func(outcome int) bool { return hasTwins(p, left(p, l, n, outcome)) })
				seen[want < 0]++
				if want < 0 {
					want = 0
					for i, outcome := range some {
						if least.of(left(p, l, n, outcome)) > least.of(left(p, l, n, some[want])) {
							want = i
						}
					}
				}
				if outcome := answerOf(t, p, l, n); outcome != some[want] {
					t.Fatal(p, l, n, outcome, some[want])
				}
			}
		}
	}
	if min(seen[false], seen[true]) < 1000 {
		t.Error(seen)
	}
}

// P7.10: if the outcomes are those that leave most to be done, each walk through a tree that is accepted costs at least what Cost returns.
func TestAdversary(t *testing.T) {
	x := noise(18)
	walks := 0
	for _, p := range slices.Concat(few(19, 300), large(20, 12)) {
		if hasTwins(p, numbers(len(p.Claim))) {
			continue
		}
		least := costOf(t, p)
		for i := range 4 {
			tree := treeOf(t, p)
			if i > 0 {
				tree = aTree(&x, p)
			}
			if plan.CheckTree(p, tree, dearestWalk(p, tree)) != api.OK {
				t.Fatal(p, tree)
			}
			cost, rest := 0, numbers(len(p.Claim))
			for n := tree[0]; n.Trial >= 0; walks++ {
				outcome := answerOf(t, p, rest, n.Trial)
				cost += p.Trials[n.Trial].Cost
				rest = left(p, rest, n.Trial, outcome)
				n = tree[n.Next[outcome]]
			}
			if cost < least || i == 0 && cost != least {
				t.Fatal(p, tree, cost, least)
			}
		}
	}
	if walks < 500 {
		t.Error(walks)
	}
}

// P7.11: with a further trial Cost is not greater, and no part of a set of worlds costs more than the set.
func TestLessToDo(t *testing.T) {
	x := noise(21)
	for _, p := range slices.Concat(few(22, 400), large(23, 12)) {
		if hasTwins(p, numbers(len(p.Claim))) || len(p.Trials) == api.MaxTrials {
			continue
		}
		q := copiedProblem(p)
		q.Trials = slices.Insert(q.Trials, x.below(len(q.Trials)+1), aTrial(&x, len(q.Claim), 3, 4))
		if costOf(t, q) > costOf(t, p) {
			t.Fatal(p, q)
		}
		less, bound := boundOf(t, q), boundOf(t, p)
		for k := range bound {
			if less[k] > bound[k] {
				t.Fatal(p, q, k)
			}
			for world := range p.Claim {
				if bound[k&^(1<<world)] > bound[k] {
					t.Fatal(p, k, world)
				}
			}
		}
	}
}
