package plan_test

import (
	"slices"
	"testing"

	"bonehouse/api"
	"bonehouse/plan"
)

// noise is a row of numbers that is the same in each run.
type noise uint64

func (x *noise) next() uint64 {
	*x += 0x9e3779b97f4a7c15
	z := uint64(*x)
	z = (z ^ z>>30) * 0xbf58476d1ce4e5b9
	z = (z ^ z>>27) * 0x94d049bb133111eb
	return z ^ z>>31
}

// below returns a number from 0 to n - 1.
func (x *noise) below(n int) int { return int(x.next() % uint64(n)) }

// from returns a number from lo to hi.
func (x *noise) from(lo, hi int) int { return lo + x.below(hi-lo+1) }

// order returns the numbers from 0 to n - 1 in some order.
func (x *noise) order(n int) []int {
	var l []int
	for i := range n {
		l = slices.Insert(l, x.below(i+1), i)
	}
	return l
}

// example returns the chapter's problem.
func example() api.Problem {
	return api.Problem{Claim: []bool{true, true, false, false}, Trials: []api.Trial{trial(5, 0, 1, 2, 2), trial(3, 0, 0, 1, 0), trial(4, 0, 0, 0, 1)}}
}

// trial returns a trial.
func trial(cost int, outcomes ...int) api.Trial { return api.Trial{Cost: cost, Outcomes: outcomes} }

// claim returns a claim that is true in the worlds for which a text has a +.
func claim(text string) []bool {
	var l []bool
	for _, c := range text {
		l = append(l, c == '+')
	}
	return l
}

// aTrial returns a trial with at most so many different outcomes, the first of them in most worlds.
func aTrial(x *noise, worlds, outcomes, cost int) api.Trial {
	t := api.Trial{Cost: x.below(cost + 1)}
	labels := x.order(8)[:outcomes]
	for range worlds {
		t.Outcomes = append(t.Outcomes, labels[max(0, x.from(-1, outcomes-1))])
	}
	return t
}

// aProblem returns a problem with so many worlds and trials; no trial costs more than cost.
func aProblem(x *noise, worlds, trials, outcomes, cost int) api.Problem {
	var p api.Problem
	for range worlds {
		p.Claim = append(p.Claim, x.below(2) == 1)
	}
	for range trials {
		p.Trials = append(p.Trials, aTrial(x, worlds, x.from(1, outcomes), cost))
	}
	return p
}

// few returns problems with few worlds and trials, with twins and without, also such without trials.
func few(seed noise, many int) []api.Problem {
	l := []api.Problem{example(), {Claim: claim("+")}, {Claim: claim("-")}, {Claim: claim("+-")}, {Claim: claim("++")}}
	for i := range many {
		l = append(l, aProblem(&seed, seed.from(1, 6), seed.below(5), []int{2, 3, 8}[i%3], []int{0, 1, 3, 20, 10000}[i%5]))
	}
	return l
}

// large returns problems with up to 12 worlds and 16 trials, of most of which the claim can be decided.
func large(seed noise, many int) []api.Problem {
	l := []api.Problem{aProblem(&seed, 12, 16, 2, 10000), aProblem(&seed, 12, 16, 8, 100), aProblem(&seed, 12, 0, 2, 1), singles(12)}
	for i := range many {
		l = append(l, aProblem(&seed, seed.from(6, 12), seed.from(3, 16), []int{2, 3, 8}[i%3], []int{1, 9, 10000}[i%3]))
	}
	return l
}

// singles returns a problem whose claim is true in the first world alone; each trial tells a further one from all others, so that all of them may be needed.
func singles(worlds int) api.Problem {
	p := api.Problem{Claim: make([]bool, worlds)}
	p.Claim[0] = true
	for n := 1; n < worlds; n++ {
		t := api.Trial{Cost: api.MaxCost, Outcomes: make([]int, worlds)}
		t.Outcomes[n] = 7
		p.Trials = append(p.Trials, t)
	}
	return p
}

// sets returns all sets of so many worlds as lists, by the numbers that their bits are.
func sets(worlds int) [][]int {
	l := [][]int{nil}
	for n := range worlds {
		for _, some := range l {
			l = append(l, append(slices.Clone(some), n))
		}
	}
	return l
}

// numbers returns the numbers from 0 to n - 1.
func numbers(n int) []int {
	var l []int
	for i := range n {
		l = append(l, i)
	}
	return l
}

// setOf returns the set of the numbers of a list.
func setOf(l []int) api.Set {
	var s api.Set
	for _, n := range l {
		s[n/64] |= 1 << (n % 64)
	}
	return s
}

// isDecided reports whether the claim is true in all worlds of a list, or in none.
func isDecided(p api.Problem, l []int) bool {
	return !slices.ContainsFunc(l, func(n int) bool { return p.Claim[n] != p.Claim[l[0]] })
}

// left returns those worlds of a list in which a trial has an outcome.
func left(p api.Problem, l []int, n, outcome int) []int {
	return slices.DeleteFunc(slices.Clone(l), func(world int) bool { return p.Trials[n].Outcomes[world] != outcome })
}

// outcomesOf returns the outcomes that a trial has in the worlds of a list, in increasing order.
func outcomesOf(p api.Problem, l []int, n int) []int {
	var some []int
	for _, world := range l {
		some = append(some, p.Trials[n].Outcomes[world])
	}
	slices.Sort(some)
	return slices.Compact(some)
}

// isTold reports whether one of some trials has different outcomes in two worlds.
func isTold(p api.Problem, trials []int, a, b int) bool {
	return slices.ContainsFunc(trials, func(n int) bool { return p.Trials[n].Outcomes[a] != p.Trials[n].Outcomes[b] })
}

// areTold reports whether some trials together tell apart each two worlds of a list in which the claim differs.
func areTold(p api.Problem, trials, l []int) bool {
	for _, a := range l {
		for _, b := range l {
			if p.Claim[a] != p.Claim[b] && !isTold(p, trials, a, b) {
				return false
			}
		}
	}
	return true
}

// hasTwins reports whether there are twins in a list of worlds.
func hasTwins(p api.Problem, l []int) bool { return !areTold(p, numbers(len(p.Trials)), l) }

// leastCosts tells the least costs of lists of worlds, as the chapter says them.
type leastCosts struct {
	p     api.Problem
	known map[api.Set]int
}

// of returns the least cost of worlds without twins.
func (x *leastCosts) of(l []int) int {
	if isDecided(x.p, l) {
		return 0
	}
	if cost, is := x.known[setOf(l)]; is {
		return cost
	}
	least := -1
	for n, t := range x.p.Trials {
		some := outcomesOf(x.p, l, n)
		if len(some) < 2 {
			continue
		}
		most := 0
		for _, outcome := range some {
			most = max(most, x.of(left(x.p, l, n, outcome)))
		}
		if least < 0 || t.Cost+most < least {
			least = t.Cost + most
		}
	}
	x.known[setOf(l)] = least
	return least
}

// leastOf returns the least costs of a problem's sets of worlds.
func leastOf(p api.Problem) *leastCosts { return &leastCosts{p, map[api.Set]int{}} }

// decides reports whether trees with some trials, each of which is done once at most on a walk, decide the claim in some worlds for at most cost.
func decides(p api.Problem, l, trials []int, cost int) bool {
	if isDecided(p, l) {
		return true
	}
	for i, n := range trials {
		rest := slices.Delete(slices.Clone(trials), i, i+1)
		undecided := func(outcome int) bool {
			return !decides(p, left(p, l, n, outcome), rest, cost-p.Trials[n].Cost)
		}
		if p.Trials[n].Cost <= cost && !slices.ContainsFunc(outcomesOf(p, l, n), undecided) {
			return true
		}
	}
	return false
}

// costOf returns what Cost returns of a problem without twins.
func costOf(t testing.TB, p api.Problem) int {
	t.Helper()
	cost, is, err := plan.Cost(p)
	if !is || err != api.OK {
		t.Fatal(p, cost, is, err)
	}
	return cost
}

// treeOf returns what Tree returns of a problem without twins.
func treeOf(t testing.TB, p api.Problem) []api.Node {
	t.Helper()
	l, is, err := plan.Tree(p)
	if !is || err != api.OK || len(l) == 0 {
		t.Fatal(p, l, is, err)
	}
	return l
}

// boundOf returns what Bound returns of a problem without twins.
func boundOf(t testing.TB, p api.Problem) []int {
	t.Helper()
	l, is, err := plan.Bound(p)
	if !is || err != api.OK {
		t.Fatal(p, l, is, err)
	}
	return l
}

// answerOf returns what Answer returns of some worlds.
func answerOf(t testing.TB, p api.Problem, l []int, n int) int {
	t.Helper()
	outcome, err := plan.Answer(p, setOf(l), n)
	if err != api.OK {
		t.Fatal(p, l, n, outcome, err)
	}
	return outcome
}

// leaf returns a leaf of a tree.
func leaf(answer bool) api.Node { return api.Node{Trial: -1, Answer: answer} }

// fork returns a trial of a tree; the outcomes that are not given cannot come.
func fork(n int, next ...int) api.Node {
	return api.Node{Trial: n, Next: append(next, make([]int, 8-len(next))...)}
}

// copied returns a tree with memory of its own.
func copied(tree []api.Node) []api.Node {
	l := slices.Clone(tree)
	for i := range l {
		l[i].Next = slices.Clone(l[i].Next)
	}
	return l
}

// sameTree reports whether two trees are equal.
func sameTree(a, b []api.Node) bool {
	return slices.EqualFunc(a, b, func(m, n api.Node) bool {
		return m.Trial == n.Trial && m.Answer == n.Answer && slices.Equal(m.Next, n.Next)
	})
}

// copiedProblem returns a problem with memory of its own.
func copiedProblem(p api.Problem) api.Problem {
	q := api.Problem{Claim: slices.Clone(p.Claim), Trials: slices.Clone(p.Trials)}
	for i := range q.Trials {
		q.Trials[i].Outcomes = slices.Clone(q.Trials[i].Outcomes)
	}
	return q
}

// sameProblem reports whether two problems are equal.
func sameProblem(p, q api.Problem) bool {
	return slices.Equal(p.Claim, q.Claim) && slices.EqualFunc(p.Trials, q.Trials, func(s, t api.Trial) bool {
		return s.Cost == t.Cost && slices.Equal(s.Outcomes, t.Outcomes)
	})
}

// visits goes down from a node of a tree, and notes each node that it comes to; it reports whether all of these are leaves or trials.
func visits(p api.Problem, tree []api.Node, at int, times map[int]int) bool {
	times[at]++
	n := tree[at]
	if n.Trial == -1 {
		return len(n.Next) == 0
	}
	if n.Trial < 0 || n.Trial >= len(p.Trials) || n.Answer || len(n.Next) != 8 {
		return false
	}
	for _, next := range n.Next {
		if next == 0 {
			continue
		}
		if next <= at || next >= len(tree) || times[next] > 0 || !visits(p, tree, next, times) {
			return false
		}
	}
	return true
}

// isTree reports whether a tree is well-formed: from its first node each one is come to once.
func isTree(p api.Problem, tree []api.Node) bool {
	times := map[int]int{}
	return len(tree) > 0 && len(tree) <= 4096 && visits(p, tree, 0, times) && len(times) == len(tree)
}

// walked returns the walk through a well-formed tree in a world, from a node on.
func walked(p api.Problem, tree []api.Node, at, world int) (trials []int, cost int, answer, ends bool) {
	n := tree[at]
	if n.Trial < 0 {
		return nil, 0, n.Answer, true
	}
	next := n.Next[p.Trials[n.Trial].Outcomes[world]]
	if next == 0 {
		return nil, 0, false, false
	}
	trials, cost, answer, ends = walked(p, tree, next, world)
	return append([]int{n.Trial}, trials...), cost + p.Trials[n.Trial].Cost, answer, ends
}

// isAccepted reports whether a tree decides the claim in each world, for at most cost.
func isAccepted(p api.Problem, tree []api.Node, cost int) bool {
	if !isTree(p, tree) {
		return false
	}
	for world := range p.Claim {
		_, n, answer, ends := walked(p, tree, 0, world)
		if !ends || n > cost || answer != p.Claim[world] {
			return false
		}
	}
	return true
}

// dearestWalk returns what the dearest walk through a tree costs that fails in no world.
func dearestWalk(p api.Problem, tree []api.Node) int {
	most := 0
	for world := range p.Claim {
		_, cost, _, _ := walked(p, tree, 0, world)
		most = max(most, cost)
	}
	return most
}

// bud is a place in a tree at which a node is still to come.
type bud struct {
	parent, outcome int
	worlds, rest    []int // the worlds that are left, and the trials that are
}

// aTree returns a tree that decides the claim rightly in each world of a problem without twins; it may do more than is needed, and its nodes are in any order that is allowed.
func aTree(x *noise, p api.Problem) []api.Node {
	var tree []api.Node
	buds := []bud{{-1, 0, numbers(len(p.Claim)), x.order(len(p.Trials))}}
	for len(buds) > 0 {
		i := x.below(len(buds))
		b := buds[i]
		buds = slices.Delete(buds, i, i+1)
		if b.parent >= 0 {
			tree[b.parent].Next[b.outcome] = len(tree)
		}
		if isDecided(p, b.worlds) && (x.below(8) > 0 || len(b.rest) == 0) {
			tree = append(tree, leaf(len(b.worlds) > 0 && p.Claim[b.worlds[0]]))
			continue
		}
		n, rest := b.rest[0], b.rest[1:]
		for outcome := range 8 {
			if some := left(p, b.worlds, n, outcome); len(some) > 0 || x.below(60) == 0 {
				buds = append(buds, bud{len(tree), outcome, some, rest})
			}
		}
		tree = append(tree, fork(n))
	}
	return tree
}

// changed returns a tree with a change or two, by most of which it is wrong.
func changed(x *noise, p api.Problem, tree []api.Node) []api.Node {
	tree = copied(tree)
	for range x.from(1, 2) {
		n := &tree[x.below(len(tree))]
		switch kind := x.below(8); {
		case kind == 0:
			n.Answer = !n.Answer
		case kind == 1:
			n.Trial = x.from(-2, len(p.Trials))
		case kind == 2 && len(n.Next) > 0:
			n.Next[x.below(len(n.Next))] = x.from(-1, len(tree))
		case kind == 3 && len(n.Next) > 0:
			i, k := x.below(len(n.Next)), x.below(len(n.Next))
			n.Next[i], n.Next[k] = n.Next[k], n.Next[i]
		case kind == 4 && len(n.Next) > 0:
			n.Next = n.Next[:x.below(len(n.Next))]
		case kind == 5:
			n.Next = append(n.Next, make([]int, x.from(1, 8))...)
		case kind == 6 && len(tree) > 1:
			tree = tree[:len(tree)-1]
		case kind == 7:
			tree = append(tree, leaf(x.below(2) == 0))
		}
	}
	return tree
}
