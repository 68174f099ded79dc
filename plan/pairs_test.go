package plan_test

import (
	"math"
	"slices"
	"testing"

	"bonehouse/api"
	"bonehouse/plan"
)

// graph returns a graph of so many nodes.
func graph(nodes int, l ...api.Tie) api.Graph { return api.Graph{Nodes: nodes, Ties: l} }

// join and cut return ties.

func join(a, b int) api.Tie { return api.Tie{A: a, B: b, Kind: api.TogetherT, Strength: 1} }

func cut(a, b int) api.Tie { return api.Tie{A: a, B: b, Kind: api.ApartT, Strength: 1} }

// vault returns the graph of the chapter on parts: 0 and 1 are joined, 1 and 2 are kept apart.
func vault() api.Graph { return graph(4, join(0, 1), cut(1, 2)) }

// partitions returns all partitions of a graph's nodes with which no tie is at odds, of at most so many people, in order.
func partitions(g api.Graph, most int) [][]int {
	l := [][]int{nil}
	for n := range g.Nodes {
		var longer [][]int
		for _, p := range l {
			people := 0
			if n > 0 {
				people = slices.Max(p) + 1
			}
			for person := range people + 1 {
				if most == 0 || person < most {
					longer = append(longer, append(slices.Clone(p), person))
				}
			}
		}
		l = longer
	}
	return slices.DeleteFunc(l, func(p []int) bool {
		return slices.ContainsFunc(g.Ties, func(t api.Tie) bool { return (p[t.A] == p[t.B]) != (t.Kind == api.TogetherT) })
	})
}

// aVault returns a graph of so many nodes with some ties, which does not contradict itself.
func aVault(x *noise, nodes, many int) api.Graph {
	g := graph(nodes)
	for range many {
		t := cut(x.below(nodes), x.below(nodes-1))
		if t.B >= t.A {
			t.B++
		}
		if x.below(3) == 0 {
			t.Kind = api.TogetherT
		}
		if h := graph(nodes, append(slices.Clone(g.Ties), t)...); len(partitions(h, 0)) > 0 {
			g = h
		}
	}
	return g
}

// P7.7: the problem of two nodes of the chapter on parts.
func TestPairsExamples(t *testing.T) {
	outcomes := []api.Trial{trial(4, 0, 1, 0), trial(9, 1, 0, 0), trial(1, 1, 1, 1), trial(0, 0, 0, 0)}
	for i, x := range []struct {
		g          api.Graph
		most, a, b int
		trials     [][2]int
		costs      []int
		want       api.Problem
	}{
		{vault(), 0, 0, 3, [][2]int{{2, 3}, {1, 3}, {0, 0}, {0, 2}}, []int{4, 9, 1, 0}, api.Problem{Claim: claim("+--"), Trials: outcomes}},
		{vault(), 32, 3, 2, nil, nil, api.Problem{Claim: claim("-+-")}}, {vault(), 2, 1, 3, [][2]int{{3, 2}}, []int{10000}, api.Problem{Claim: claim("+-"), Trials: []api.Trial{trial(10000, 0, 1)}}},
		{vault(), 0, 2, 2, [][2]int{}, []int{}, api.Problem{Claim: claim("+++")}}, {vault(), 3, 2, 0, nil, nil, api.Problem{Claim: claim("---")}}, {graph(1), 0, 0, 0, [][2]int{{0, 0}}, []int{7}, api.Problem{Claim: claim("+"), Trials: []api.Trial{trial(7, 1)}}},
	} {
		p, err := plan.Pairs(x.g, x.most, x.a, x.b, x.trials, x.costs)
		if !sameProblem(p, x.want) || err != api.OK || plan.Check(p) != api.OK {
			t.Error(i, p, err)
		}
	}
}

// P7.7: the errors, each ahead of those that follow it.
func TestPairsErrors(t *testing.T) {
	long := make([][2]int, 17)
	for i, x := range []struct {
		g          api.Graph
		most, a, b int
		trials     [][2]int
		costs      []int
		want       api.Errno
	}{
		{graph(0), -1, -1, 0, nil, nil, api.ErrGraph}, {graph(33), 0, 0, 0, nil, nil, api.ErrGraph}, {graph(2, cut(0, 2)), 33, 9, 9, long, nil, api.ErrGraph}, {graph(2, cut(0, 1), join(1, 0)), 33, 9, 9, long, nil, api.ErrClash}, {graph(11), 33, 11, 0, nil, nil, api.ErrLimit}, {graph(11), 1, 0, 1, nil, nil, api.ErrLimit},
		{vault(), 33, 0, 3, nil, nil, api.ErrArg}, {vault(), -1, 0, 3, nil, nil, api.ErrArg}, {vault(), math.MaxInt, 0, 3, nil, nil, api.ErrArg}, {vault(), 0, 4, 0, nil, nil, api.ErrArg}, {vault(), 0, -1, 0, nil, nil, api.ErrArg}, {vault(), 0, 0, 4, nil, nil, api.ErrArg}, {vault(), 0, 0, -1, nil, nil, api.ErrArg}, {vault(), 0, math.MinInt, 0, nil, nil, api.ErrArg}, {vault(), 0, 0, math.MaxInt, nil, nil, api.ErrArg},
		{vault(), 0, 0, 3, long, make([]int, 17), api.ErrArg}, {vault(), 0, 0, 3, long[:16], make([]int, 16), api.OK}, {vault(), 0, 0, 3, [][2]int{{0, 4}}, []int{1}, api.ErrArg}, {vault(), 0, 0, 3, [][2]int{{4, 0}}, []int{1}, api.ErrArg}, {vault(), 0, 0, 3, [][2]int{{0, -1}}, []int{1}, api.ErrArg}, {vault(), 0, 0, 3, [][2]int{{-1, 0}}, []int{1}, api.ErrArg}, {vault(), 0, 0, 3, [][2]int{{0, 1}, {3, math.MaxInt}}, []int{1, 1}, api.ErrArg},
		{vault(), 0, 0, 3, [][2]int{{0, 1}}, nil, api.ErrArg}, {vault(), 0, 0, 3, nil, []int{1}, api.ErrArg}, {vault(), 0, 0, 3, [][2]int{{0, 1}}, []int{1, 1}, api.ErrArg}, {vault(), 0, 0, 3, [][2]int{{0, 1}, {1, 2}}, []int{1}, api.ErrArg}, {vault(), 0, 0, 3, [][2]int{{0, 1}}, []int{10001}, api.ErrArg}, {vault(), 0, 0, 3, [][2]int{{0, 1}}, []int{-1}, api.ErrArg}, {vault(), 0, 0, 3, [][2]int{{0, 1}, {1, 2}}, []int{10000, math.MinInt}, api.ErrArg}, {vault(), 0, 0, 3, [][2]int{{0, 1}, {1, 2}}, []int{10000, 0}, api.OK},
		{vault(), 1, 0, 4, nil, nil, api.ErrArg}, {vault(), 1, 0, 3, nil, []int{1}, api.ErrArg}, {vault(), 1, 0, 3, [][2]int{{0, 4}}, []int{1}, api.ErrArg}, {vault(), 1, 0, 3, [][2]int{{0, 1}}, []int{-1}, api.ErrArg}, {vault(), 1, 0, 3, nil, nil, api.ErrNone}, {vault(), 1, 2, 2, [][2]int{{0, 1}}, []int{1}, api.ErrNone},
		{graph(4), 0, 0, 4, nil, nil, api.ErrArg}, {graph(4), 0, 0, 3, nil, []int{1}, api.ErrArg}, {graph(4), 0, 0, 3, [][2]int{{0, 1}}, []int{10001}, api.ErrArg}, {graph(4), 0, 0, 3, nil, nil, api.ErrLimit}, {graph(4), 3, 0, 3, nil, nil, api.ErrLimit}, {graph(4), 2, 0, 3, nil, nil, api.OK}, {graph(10), 0, 0, 0, nil, nil, api.ErrLimit}, {graph(10), 1, 0, 0, nil, nil, api.OK},
	} {
		p, err := plan.Pairs(x.g, x.most, x.a, x.b, x.trials, x.costs)
		if err != x.want || err != api.OK && !sameProblem(p, api.Problem{}) {
			t.Error(i, p, err)
		}
	}
}

// P7.7: Pairs of random graphs, held against all partitions; of 12 there is a problem, of 13 there is none.
func TestPairs(t *testing.T) {
	x := noise(51)
	seen := map[int]int{} // by how many partitions are allowed
	for range 4000 {
		g := aVault(&x, x.from(2, 6), x.below(9))
		most := x.below(g.Nodes + 1)
		a, b := x.below(g.Nodes), x.below(g.Nodes)
		var trials [][2]int
		var costs []int
		for range x.below(17) {
			trials = append(trials, [2]int{x.below(g.Nodes), x.below(g.Nodes)})
			costs = append(costs, x.below(10001))
		}
		keptTies, keptTrials, keptCosts := slices.Clone(g.Ties), slices.Clone(trials), slices.Clone(costs)
		all := partitions(g, most)
		p, err := plan.Pairs(g, most, a, b, trials, costs)
		seen[len(all)]++
		if !slices.Equal(g.Ties, keptTies) || !slices.Equal(trials, keptTrials) || !slices.Equal(costs, keptCosts) {
			t.Fatal(g, trials, costs)
		}
		want := api.Problem{}
		wrong := api.OK
		switch {
		case len(all) == 0:
			wrong = api.ErrNone
		case len(all) > 12:
			wrong = api.ErrLimit
		default:
			for _, l := range all {
				want.Claim = append(want.Claim, l[a] == l[b])
			}
			for n, pair := range trials {
				x := api.Trial{Cost: costs[n]}
				for _, l := range all {
					outcome := 0
					if l[pair[0]] == l[pair[1]] {
						outcome = 1
					}
					x.Outcomes = append(x.Outcomes, outcome)
				}
				want.Trials = append(want.Trials, x)
			}
		}
		if !sameProblem(p, want) || err != wrong {
			t.Fatal(g, most, a, b, trials, costs, p, err)
		}
		for i := range p.Trials { // memory of its own
			clear(p.Trials[i].Outcomes[:cap(p.Trials[i].Outcomes)])
			for k := i + 1; k < len(p.Trials); k++ {
				if !slices.Equal(p.Trials[k].Outcomes, want.Trials[k].Outcomes) {
					t.Fatal(i, k)
				}
			}
		}
	}
	for _, n := range []int{0, 1, 2, 10, 12, 13} {
		if seen[n] < 5 {
			t.Error(n, seen)
		}
	}
}

// P7.13: whatever partition is the true one, the outcomes of a tree's trials in it tell whether both nodes are of one person.
func TestTrueWorld(t *testing.T) {
	x := noise(52)
	walks := 0
	for range 1500 {
		g := aVault(&x, x.from(2, 6), x.below(9))
		most := x.below(g.Nodes + 1)
		a, b := x.below(g.Nodes), x.below(g.Nodes)
		var trials [][2]int
		for range x.from(1, 8) {
			if pair := [2]int{x.below(g.Nodes), x.below(g.Nodes)}; pair[0]+pair[1] != a+b {
				trials = append(trials, pair)
			}
		}
		p, err := plan.Pairs(g, most, a, b, trials, make([]int, len(trials)))
		if err != api.OK || hasTwins(p, numbers(len(p.Claim))) {
			continue
		}
		for n := range p.Trials {
			p.Trials[n].Cost = x.below(20)
		}
		for _, tree := range [][]api.Node{treeOf(t, p), aTree(&x, p)} {
			if plan.CheckTree(p, tree, dearestWalk(p, tree)) != api.OK {
				t.Fatal(p, tree)
			}
			for _, l := range partitions(g, most) {
				n := tree[0]
				for ; n.Trial >= 0; walks++ {
					outcome := 0
					if l[trials[n.Trial][0]] == l[trials[n.Trial][1]] {
						outcome = 1
					}
					n = tree[n.Next[outcome]]
				}
				if n.Answer != (l[a] == l[b]) {
					t.Fatal(g, most, a, b, trials, tree, l)
				}
			}
		}
	}
	if walks < 500 {
		t.Error(walks)
	}
}
