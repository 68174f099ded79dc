package plan

import "bonehouse/api"

const leaf = -1 // the trial of a leaf

// growth is a tree that grows.
type growth struct {
	problem
	costs costs
	nodes []api.Node
}

// grow adds the nodes that decide the claim in some worlds without twins, and returns the first one.
func (x *growth) grow(worlds set) int {
	at := len(x.nodes)
	is, answer := x.decided(worlds)
	x.nodes = append(x.nodes, api.Node{Trial: leaf, Answer: answer})
	if is {
		return at
	}
	n := x.choice(x.costs, worlds).item
	next := make([]int, outcomes)
	for outcome, left := range x.trials[n].left(worlds) {
		next[outcome] = x.grow(left)
	}
	x.nodes[at] = api.Node{Trial: n, Next: next}
	return at
}

// Tree returns a tree that decides the claim for the least cost, and whether there is one.
func Tree(p api.Problem) ([]api.Node, bool, api.Errno) {
	x, err := open(p)
	if err != api.OK {
		return nil, false, err
	}
	tree := growth{problem: x, costs: x.least()}
	if tree.costs.of(x.all) == never {
		return nil, false, api.OK
	}
	tree.grow(x.all)
	return tree.nodes, true, api.OK
}

// isNode reports whether a node of a tree of so many nodes is a leaf or a trial of p.
func isNode(p api.Problem, n api.Node, at, nodes int) bool {
	if n.Trial == leaf {
		return len(n.Next) == 0
	}
	isNext := func(next int) bool { return next == 0 || isFromTo(next, at+1, nodes-1) }
	return isFromTo(n.Trial, 0, len(p.Trials)-1) && !n.Answer && len(n.Next) == outcomes && areAll(n.Next, isNext)
}

// isTree reports whether a tree is well-formed.
func isTree(p api.Problem, tree []api.Node) bool {
	if !isFromTo(len(tree), 1, api.MaxSteps) {
		return false
	}
	ways := make([]int, len(tree)) // for each node how often it is the next one
	for at, n := range tree {
		if !isNode(p, n, at, len(tree)) {
			return false
		}
		for _, next := range n.Next {
			ways[next]++
		}
	}
	return areAll(ways[1:], func(n int) bool { return n == 1 })
}

// walk is what was done on a walk through a tree, and what it came to.
type walk struct {
	trials []int
	cost   int
	answer bool
}

// walkIn returns the walk through a well-formed tree in a world, and whether it does not fail.
func walkIn(p api.Problem, tree []api.Node, world int) (walk, bool) {
	var w walk
	n := tree[0]
	for n.Trial != leaf {
		t := p.Trials[n.Trial]
		w.trials = append(w.trials, n.Trial)
		w.cost += t.Cost
		next := n.Next[t.Outcomes[world]]
		if next == 0 {
			return walk{}, false
		}
		n = tree[next]
	}
	w.answer = n.Answer
	return w, true
}

// CheckTree returns ErrTree unless a tree decides the claim rightly in each world, for at most cost.
func CheckTree(p api.Problem, tree []api.Node, cost int) api.Errno {
	if err := Check(p); err != api.OK {
		return err
	}
	if cost < 0 {
		return api.ErrArg
	}
	if !isTree(p, tree) {
		return api.ErrTree
	}
	for world, is := range p.Claim {
		w, ends := walkIn(p, tree, world)
		if !ends || w.cost > cost || w.answer != is {
			return api.ErrTree
		}
	}
	return api.OK
}

// Run returns the trials that a tree does in a world, what they cost, and the answer.
func Run(p api.Problem, tree []api.Node, world int) ([]int, int, bool, api.Errno) {
	if err := Check(p); err != api.OK {
		return nil, 0, false, err
	}
	if !isTree(p, tree) {
		return nil, 0, false, api.ErrTree
	}
	if !isFromTo(world, 0, len(p.Claim)-1) {
		return nil, 0, false, api.ErrArg
	}
	w, ends := walkIn(p, tree, world)
	if !ends {
		return nil, 0, false, api.ErrTree
	}
	return w.trials, w.cost, w.answer, api.OK
}
