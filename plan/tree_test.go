package plan_test

import (
	"math"
	"slices"
	"testing"

	"bonehouse/api"
	"bonehouse/plan"
)

// exampleTree returns the tree of the chapter's examples.
func exampleTree() []api.Node {
	return []api.Node{fork(0, 1, 2, 3), leaf(true), leaf(true), leaf(false)}
}

// P7.3: trees that are right, and what is wrong with others, of the chapter's problem.
func TestTreeExamples(t *testing.T) {
	p := example()
	for i, x := range []struct {
		tree []api.Node
		cost int
		want api.Errno
	}{
		{exampleTree(), 5, api.OK}, {exampleTree(), 4, api.ErrTree}, {exampleTree(), 6, api.OK}, {exampleTree(), math.MaxInt, api.OK}, {exampleTree(), 0, api.ErrTree}, {exampleTree(), -1, api.ErrArg}, {exampleTree(), math.MinInt, api.ErrArg}, {nil, -1, api.ErrArg}, {nil, 0, api.ErrTree}, {[]api.Node{}, 9, api.ErrTree},
		{[]api.Node{leaf(true)}, 9, api.ErrTree}, {[]api.Node{leaf(false)}, 9, api.ErrTree}, {[]api.Node{{}}, 9, api.ErrTree}, {[]api.Node{fork(0)}, 9, api.ErrTree},
		{[]api.Node{fork(0, 3, 1, 2), leaf(true), leaf(false), leaf(true)}, 5, api.OK},                                                    // in another order
		{[]api.Node{fork(0, 3, 1, 2), leaf(true), leaf(true), leaf(true)}, 5, api.ErrTree},                                                // a wrong answer
		{[]api.Node{fork(0, 1, 2, 3, 0, 0, 0, 0, 4), leaf(true), leaf(true), leaf(false), leaf(true)}, 5, api.OK},                         // an outcome that does not come
		{[]api.Node{{Trial: 0, Next: []int{1, 2, 3, 0, 0, 0, 0, 0, 4}}, leaf(true), leaf(true), leaf(false), leaf(true)}, 5, api.ErrTree}, // nine outcomes
		{[]api.Node{fork(0, 1, 2), leaf(true), leaf(true)}, 5, api.ErrTree},                                                               // fails in two worlds
		{[]api.Node{fork(0, 1, 1, 2), leaf(true), leaf(false)}, 5, api.ErrTree},                                                           // one node twice
		{[]api.Node{fork(0, 1, 2, 3), leaf(true), leaf(true), leaf(false), leaf(false)}, 5, api.ErrTree},                                  // a node of nothing
		{[]api.Node{fork(0, 1, 2, 3), leaf(true), leaf(true)}, 5, api.ErrTree},                                                            // no such node
		{[]api.Node{fork(1, 1, 2), fork(2, 3, 4), leaf(false), leaf(true), leaf(false)}, 7, api.OK},                                       // two trials
		{[]api.Node{fork(1, 1, 2), fork(2, 3, 4), leaf(false), leaf(true), leaf(false)}, 6, api.ErrTree},                                  // which cost 7
		{[]api.Node{fork(1, 2, 1), leaf(false), fork(2, 4, 3), leaf(false), leaf(true)}, 7, api.OK},                                       // in another order
		{[]api.Node{fork(1, 2, 3), fork(2, 4, 5), fork(2, 1), leaf(false), leaf(true), leaf(false)}, 11, api.ErrTree},                     // back
		{[]api.Node{fork(1, 1, 3), fork(2, 2), fork(2, 4, 5), leaf(false), leaf(true), leaf(false)}, 11, api.ErrTree},                     // fails in the world 3
		{[]api.Node{fork(1, 1, 3), fork(2, 2, 6), fork(2, 4, 5), leaf(false), leaf(true), leaf(true), leaf(false)}, 11, api.OK},           // a trial twice
		{[]api.Node{fork(1, 1, 3), fork(2, 2, 6), fork(2, 4, 5), leaf(false), leaf(true), leaf(true), leaf(false)}, 10, api.ErrTree},
		{[]api.Node{fork(3, 1, 2, 3), leaf(true), leaf(true), leaf(false)}, 99, api.ErrTree},
		{[]api.Node{{Trial: -2}}, 99, api.ErrTree}, {[]api.Node{{Trial: math.MinInt}}, 99, api.ErrTree}, {[]api.Node{fork(math.MaxInt)}, 99, api.ErrTree}, {[]api.Node{fork(-1)}, 99, api.ErrTree}, {[]api.Node{{Trial: -1, Next: []int{0}}}, 99, api.ErrTree}, {[]api.Node{fork(0, -1, 0, 0)}, 99, api.ErrTree}, {[]api.Node{fork(0, math.MinInt, math.MaxInt)}, 99, api.ErrTree},
	} {
		kept := copied(x.tree)
		if err := plan.CheckTree(p, x.tree, x.cost); err != x.want || !sameTree(x.tree, kept) {
			t.Error(i, err)
		}
		if is := isAccepted(p, x.tree, x.cost); x.cost >= 0 && is != (x.want == api.OK) {
			t.Error(i, is)
		}
	}
	decided := api.Problem{Claim: claim("++"), Trials: []api.Trial{trial(3, 0, 1)}}
	for i, x := range []struct {
		tree []api.Node
		cost int
		want api.Errno
	}{{[]api.Node{leaf(true)}, 0, api.OK}, {[]api.Node{leaf(false)}, 0, api.ErrTree}, {[]api.Node{{Trial: -1, Next: []int{}, Answer: true}}, 0, api.OK}, {[]api.Node{fork(0, 1, 2), leaf(true), leaf(true)}, 3, api.OK}, {[]api.Node{fork(0, 1, 2), leaf(true), leaf(true)}, 2, api.ErrTree}, {[]api.Node{fork(0, 1), leaf(true)}, 3, api.ErrTree}} {
		if err := plan.CheckTree(decided, x.tree, x.cost); err != x.want {
			t.Error(i, err)
		}
	}
}

// P7.3: a change of any part of a tree's form.
func TestTreeForm(t *testing.T) {
	for i, change := range []func(l []api.Node) []api.Node{
		func(l []api.Node) []api.Node { l[0].Answer = true; return l },
		func(l []api.Node) []api.Node { l[0].Trial = -1; return l },
		func(l []api.Node) []api.Node { l[0].Trial = 3; return l },
		func(l []api.Node) []api.Node { l[0].Next = nil; return l },
		func(l []api.Node) []api.Node { l[0].Next = l[0].Next[:7]; return l },
		func(l []api.Node) []api.Node { l[0].Next = append(l[0].Next, 0); return l },
		func(l []api.Node) []api.Node { l[0].Next[7] = 1; return l },
		func(l []api.Node) []api.Node { l[0].Next[7] = 4; return l },
		func(l []api.Node) []api.Node { l[0].Next[7] = -1; return l },
		func(l []api.Node) []api.Node { l[0].Next[1] = 0; return l },
		func(l []api.Node) []api.Node { l[1].Next = make([]int, 8); return l },
		func(l []api.Node) []api.Node { l[3].Next = []int{0}; return l },
		func(l []api.Node) []api.Node { l[1].Trial = -2; return l },
		func(l []api.Node) []api.Node { l[1].Trial = 0; return l },
		func(l []api.Node) []api.Node { l[1] = fork(1, 1); l[1].Next[0] = 1; return l },
		func(l []api.Node) []api.Node { return append(l, leaf(false)) },
		func(l []api.Node) []api.Node { return append(l, fork(0, 4)) },                                // a node that is but its own next one
		func(l []api.Node) []api.Node { return append(l, fork(0, 5), leaf(true)) },                    // nodes of nothing
		func(l []api.Node) []api.Node { return append(l, fork(0, 5), fork(0, 4)) },                    // two that follow each other
		func(l []api.Node) []api.Node { l[0].Next[2] = 4; return append(l, fork(0, 3), leaf(false)) }, // a leaf behind the node of nothing
		func(l []api.Node) []api.Node { return l[:3] },
		func(l []api.Node) []api.Node { return l[1:] },
	} {
		tree := change(exampleTree())
		if err := plan.CheckTree(example(), tree, 99); err != api.ErrTree {
			t.Error(i, err)
		}
		for _, world := range []int{-1, 0, 4} {
			l, cost, answer, err := plan.Run(example(), tree, world)
			if len(l) != 0 || cost != 0 || answer || err != api.ErrTree {
				t.Error(i, world, l, cost, answer, err)
			}
		}
	}
}

// chain returns a tree of so many nodes: trials that tell nothing apart, and a leaf.
func chain(nodes int) []api.Node {
	var l []api.Node
	for len(l) < nodes-1 {
		l = append(l, fork(0, 0, 0, 0, 0, 0, 0, len(l)+1))
	}
	return append(l, leaf(true))
}

// P7.3: trees of as many nodes as there can be, and of more.
func TestLongTrees(t *testing.T) {
	p := api.Problem{Claim: claim("++"), Trials: []api.Trial{trial(10000, 6, 6)}}
	for nodes, want := range map[int]api.Errno{1: api.OK, 2: api.OK, 4095: api.OK, 4096: api.OK, 4097: api.ErrTree, 5000: api.ErrTree} {
		tree, cost := chain(nodes), (nodes-1)*10000
		if err := plan.CheckTree(p, tree, cost); err != want {
			t.Error(nodes, err)
		}
		if err := plan.CheckTree(p, tree, cost-1); err != api.ErrTree && (cost > 0 || err != api.ErrArg) {
			t.Error(nodes, err)
		}
		l, n, answer, err := plan.Run(p, tree, 1)
		if err != want || err == api.OK && (len(l) != nodes-1 || n != cost || !answer) || err != api.OK && (len(l) != 0 || n != 0 || answer) {
			t.Error(nodes, len(l), n, answer, err)
		}
	}
}

// P7.3: Run of the chapter's problem, and its errors: first the tree, then the world, then the walk.
func TestRunExamples(t *testing.T) {
	p := example()
	two := []api.Node{fork(1, 1, 2), fork(2, 3, 4), leaf(false), leaf(true), leaf(false)}
	short := []api.Node{fork(1, 1), fork(2, 2, 3), leaf(true), leaf(false)} // fails in the world 2
	for i, x := range []struct {
		tree   []api.Node
		world  int
		l      []int
		cost   int
		answer bool
		want   api.Errno
	}{
		{exampleTree(), 0, []int{0}, 5, true, api.OK}, {exampleTree(), 3, []int{0}, 5, false, api.OK}, {two, 0, []int{1, 2}, 7, true, api.OK}, {two, 1, []int{1, 2}, 7, true, api.OK}, {two, 2, []int{1}, 3, false, api.OK}, {two, 3, []int{1, 2}, 7, false, api.OK},
		{[]api.Node{leaf(true)}, 3, nil, 0, true, api.OK}, {[]api.Node{leaf(false)}, 0, nil, 0, false, api.OK}, {short, 0, []int{1, 2}, 7, true, api.OK}, {short, 3, []int{1, 2}, 7, false, api.OK}, {short, 2, nil, 0, false, api.ErrTree},
		{short, 4, nil, 0, false, api.ErrArg}, {short, -1, nil, 0, false, api.ErrArg}, {exampleTree(), 4, nil, 0, false, api.ErrArg}, {exampleTree(), math.MaxInt, nil, 0, false, api.ErrArg}, {exampleTree(), math.MinInt, nil, 0, false, api.ErrArg}, {nil, 4, nil, 0, false, api.ErrTree}, {nil, 0, nil, 0, false, api.ErrTree}, {exampleTree()[:3], 4, nil, 0, false, api.ErrTree}, {exampleTree()[:3], 0, nil, 0, false, api.ErrTree},
	} {
		kept := copied(x.tree)
		l, cost, answer, err := plan.Run(p, x.tree, x.world)
		if !slices.Equal(l, x.l) || cost != x.cost || answer != x.answer || err != x.want || !sameTree(x.tree, kept) {
			t.Error(i, l, cost, answer, err)
		}
	}
}

// P7.3: CheckTree and Run of trees with changes, held against the chapter's words.
func TestChangedTrees(t *testing.T) {
	x := noise(31)
	trees := map[bool]int{} // by whether they are accepted with some cost
	walks := map[api.Errno]int{}
	for _, p := range slices.Concat(few(32, 400), large(33, 20)) {
		if hasTwins(p, numbers(len(p.Claim))) {
			continue
		}
		for i := range 30 {
			tree := aTree(&x, p)
			if i%3 > 0 {
				tree = changed(&x, p, tree)
			}
			cost := 0
			if isTree(p, tree) {
				cost = dearestWalk(p, tree)
			}
			for _, most := range []int{cost, cost + 1, max(0, cost-1), math.MaxInt} {
				want := api.ErrTree
				if isAccepted(p, tree, most) {
					want = api.OK
				}
				if err := plan.CheckTree(p, tree, most); err != want {
					t.Fatal(p, tree, most, err)
				}
			}
			trees[isAccepted(p, tree, cost)]++
			for world := range p.Claim {
				l, n, answer, err := plan.Run(p, tree, world)
				want := api.ErrTree
				if isTree(p, tree) {
					trials, cost, so, ends := walked(p, tree, 0, world)
					if ends {
						want = api.OK
						if !slices.Equal(l, trials) || n != cost || answer != so {
							t.Fatal(p, tree, world, l, n, answer)
						}
					}
				}
				if err != want || err != api.OK && (len(l) != 0 || n != 0 || answer) {
					t.Fatal(p, tree, world, l, n, answer, err)
				}
				walks[want]++
			}
		}
	}
	if min(trees[false], trees[true]) < 1000 || min(walks[api.OK], walks[api.ErrTree]) < 1000 {
		t.Error(trees, walks)
	}
}

// allNodes returns all nodes that a tree of so many nodes can have at a place, if trials have the outcomes 0 and 1 alone.
func allNodes(trials, at, nodes int) []api.Node {
	l := []api.Node{leaf(false), leaf(true)}
	for n := range trials {
		for _, row := range rows(2, nodes-at) {
			for i := range row {
				if row[i] > 0 {
					row[i] += at
				}
			}
			l = append(l, fork(n, row...))
		}
	}
	return l
}

// eachTree calls each for all lists of so many nodes.
func eachTree(trials, nodes int, tree []api.Node, each func([]api.Node)) {
	if len(tree) == nodes {
		each(tree)
		return
	}
	for _, n := range allNodes(trials, len(tree), nodes) {
		eachTree(trials, nodes, append(tree, n), each)
	}
}

// cheapestOfAll returns what the cheapest of all trees of up to so many nodes costs, and whether there is one; CheckTree is held against the chapter's words.
func cheapestOfAll(t testing.TB, p api.Problem, most int) (int, bool) {
	t.Helper()
	least, some := 0, false
	for nodes := range most {
		eachTree(len(p.Trials), nodes+1, nil, func(tree []api.Node) {
			is := isAccepted(p, tree, math.MaxInt)
			if err := plan.CheckTree(p, tree, math.MaxInt); (err == api.OK) != is {
				t.Fatal(p, tree, err)
			}
			if !is {
				return
			}
			cost := dearestWalk(p, tree)
			if plan.CheckTree(p, tree, cost) != api.OK || cost > 0 && plan.CheckTree(p, tree, cost-1) != api.ErrTree {
				t.Fatal(p, tree, cost)
			}
			if !some || cost < least {
				least, some = cost, true
			}
		})
	}
	return least, some
}

// P7.8: of all trees none is accepted with less than Cost returns, and one is with just that; where there are twins, none is.
func TestAllTrees(t *testing.T) {
	x := noise(34)
	seen := map[bool]int{}
	for i := range 60 {
		p := api.Problem{Claim: claim([]string{"+-", "-+", "--"}[i%3])}
		for range x.from(1, 2) {
			p.Trials = append(p.Trials, trial(x.below(5), x.below(2), x.below(2)))
		}
		least, some := cheapestOfAll(t, p, 3)
		if cost, is, err := plan.Cost(p); cost != least || is != some || err != api.OK {
			t.Fatal(p, cost, is, err, least, some)
		}
		seen[some]++
	}
	if min(seen[false], seen[true]) < 10 {
		t.Error(seen)
	}
	p := api.Problem{Claim: claim("+--"), Trials: []api.Trial{trial(2, 0, 1, 0), trial(3, 1, 1, 0)}}
	if least, some := cheapestOfAll(t, p, 5); least != 5 || !some || costOf(t, p) != 5 {
		t.Error(least, some)
	}
	p.Trials[1].Outcomes[2] = 1 // twins
	if least, some := cheapestOfAll(t, p, 4); some {
		t.Error(least, some)
	}
}

// P7.8: no tree that is accepted costs less than a bound that is, of problems with many worlds.
func TestTreesAndBounds(t *testing.T) {
	x := noise(35)
	n := 0
	for _, p := range large(36, 30) {
		if hasTwins(p, numbers(len(p.Claim))) {
			continue
		}
		bound, cost := boundOf(t, p), costOf(t, p)
		for range 20 {
			tree := aTree(&x, p)
			most := dearestWalk(p, tree)
			if plan.CheckTree(p, tree, most) != api.OK || most < bound[len(bound)-1] || cost > 0 && plan.CheckTree(p, tree, cost-1) != api.ErrTree {
				t.Fatal(p, tree, most)
			}
			n++
		}
	}
	if n < 300 {
		t.Error(n)
	}
}

// P7.9: a tree that is accepted answers rightly in each world, for at most its cost; worlds with the same outcomes have the same walk.
func TestRightAnswers(t *testing.T) {
	x := noise(37)
	alike := 0
	for _, p := range slices.Concat(few(38, 300), large(39, 15)) {
		if hasTwins(p, numbers(len(p.Claim))) {
			continue
		}
		for i := range 4 {
			tree := treeOf(t, p)
			if i > 0 {
				tree = aTree(&x, p)
			}
			cost := dearestWalk(p, tree)
			if plan.CheckTree(p, tree, cost) != api.OK {
				t.Fatal(p, tree)
			}
			walks := map[[api.MaxTrials]int][]int{}
			for world := range p.Claim {
				l, n, answer, err := plan.Run(p, tree, world)
				if n > cost || answer != p.Claim[world] || err != api.OK {
					t.Fatal(p, tree, world, n, answer, err)
				}
				var outcomes [api.MaxTrials]int
				for k, x := range p.Trials {
					outcomes[k] = x.Outcomes[world]
				}
				if other, is := walks[outcomes]; is && !slices.Equal(l, other) {
					t.Fatal(p, tree, world, l, other)
				} else if is {
					alike++
				}
				walks[outcomes] = l
			}
		}
	}
	if alike < 100 {
		t.Error(alike)
	}
}

// R2: what Tree, Run, Bound and Fixed return is new memory, of which no two lists share any.
func TestNewMemory(t *testing.T) {
	p := singles(6)
	tree := treeOf(t, p)
	want := copied(tree)
	for i := range tree {
		l := tree[i].Next[:cap(tree[i].Next)]
		for k := range l {
			l[k] = 99
		}
		tree[i].Trial = 7
		for k := i + 1; k < len(tree); k++ {
			if !sameTree(tree[k:k+1], want[k:k+1]) {
				t.Fatal(i, k)
			}
		}
	}
	if !sameTree(treeOf(t, p), want) {
		t.Error("tree")
	}
	l, _, _, _ := plan.Run(p, want, 5)
	first := slices.Clone(l)
	clear(l)
	if l, _, _, err := plan.Run(p, want, 5); !slices.Equal(l, first) || err != api.OK {
		t.Error(l, first, err)
	}
	bound := boundOf(t, p)
	kept := slices.Clone(bound)
	clear(bound)
	if again := boundOf(t, p); !slices.Equal(again, kept) {
		t.Error("bound")
	}
}
