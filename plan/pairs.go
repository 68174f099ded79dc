package plan

import (
	"iter"

	"bonehouse/api"
	"bonehouse/parts"
)

// areNodes reports whether both of a pair are nodes of g.
func areNodes(g api.Graph, pair [2]int) bool {
	return isFromTo(pair[0], 0, g.Nodes-1) && isFromTo(pair[1], 0, g.Nodes-1)
}

// canBeTried reports whether all pairs are nodes of g, and whether they and their costs can be the trials of a problem.
func canBeTried(g api.Graph, l [][2]int, costs []int) bool {
	if len(l) > api.MaxTrials || len(costs) != len(l) || !areAll(costs, isCost) {
		return false
	}
	for _, pair := range l {
		if !areNodes(g, pair) {
			return false
		}
	}
	return true
}

// worldsOf returns the partitions; ErrNone if there are none, ErrLimit if there are more than a problem can have worlds.
func worldsOf(all iter.Seq[[]int]) ([][]int, api.Errno) {
	var worlds [][]int
	for l := range all {
		if len(worlds) == api.MaxWorlds {
			return nil, api.ErrLimit
		}
		worlds = append(worlds, l)
	}
	if len(worlds) == 0 {
		return nil, api.ErrNone
	}
	return worlds, api.OK
}

// isOne reports whether both nodes of a pair are of one person in a world.
func isOne(world []int, pair [2]int) bool { return world[pair[0]] == world[pair[1]] }

// trialOf returns the trial whether both nodes of a pair are of one person.
func trialOf(worlds [][]int, pair [2]int, cost int) api.Trial {
	t := api.Trial{Cost: cost, Outcomes: make([]int, len(worlds))}
	for n, world := range worlds {
		if isOne(world, pair) {
			t.Outcomes[n] = 1
		}
	}
	return t
}

// Pairs returns the problem whether two nodes are of one person, of which trials of pairs of nodes tell whether they are of one person.
func Pairs(g api.Graph, most, a, b int, trials [][2]int, costs []int) (api.Problem, api.Errno) {
	all, err := parts.All(g, most)
	if err != api.OK {
		return api.Problem{}, err
	}
	if !areNodes(g, [2]int{a, b}) || !canBeTried(g, trials, costs) {
		return api.Problem{}, api.ErrArg
	}
	worlds, err := worldsOf(all)
	if err != api.OK {
		return api.Problem{}, err
	}
	var p api.Problem
	for _, world := range worlds {
		p.Claim = append(p.Claim, isOne(world, [2]int{a, b}))
	}
	for n, pair := range trials {
		p.Trials = append(p.Trials, trialOf(worlds, pair, costs[n]))
	}
	return p, api.OK
}
