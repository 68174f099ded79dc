package ties_test

import (
	"math"
	"slices"
	"testing"

	"bonehouse/api"
	"bonehouse/ties"
)

// P4.3: the chapter's examples, and walks over which ties can be gone in one direction alone, twice, or not at all.
func TestWalkExamples(t *testing.T) {
	parallel := graph(3, join(0, 1, 1, 0), join(1, 0, 1, 0), cut(1, 2, 1, 0), cut(2, 1, 1, 0))
	for i, x := range []struct {
		g          api.Graph
		a, b       int
		l          []int
		chain, why api.Errno
	}{
		{example(), 0, 2, []int{0, 1}, 0, 42}, {example(), 2, 0, []int{1, 0}, 0, 42}, {example(), 2, 0, []int{0, 1}, 42, 42}, {example(), 0, 2, []int{0, 0, 0, 1}, 0, 42}, {example(), 0, 2, []int{0, 0, 1}, 42, 42},
		{example(), 0, 4, []int{0, 1, 2, 3}, 42, 0}, {example(), 4, 0, []int{3, 2, 1, 0}, 42, 0}, {example(), 0, 4, []int{0, 1, 2, 3, 3, 3}, 42, 0}, {example(), 0, 4, []int{0, 1, 2, 2, 2, 3}, 42, 42},
		{example(), 2, 2, []int{2, 2}, 42, 42}, {example(), 2, 3, []int{2}, 42, 0}, {example(), 3, 2, []int{2}, 42, 0}, {example(), 2, 4, []int{2}, 42, 42}, {example(), 0, 3, []int{2}, 42, 42},
		{example(), 0, 0, nil, 0, 42}, {example(), 4, 4, []int{}, 0, 42}, {example(), 0, 1, nil, 42, 42}, {example(), 0, 0, []int{0, 0}, 0, 42}, {example(), 0, 1, []int{0}, 0, 42}, {example(), 0, 0, []int{0}, 42, 42},
		{example(), 0, 1, []int{-1}, 42, 42}, {example(), 0, 1, []int{4}, 42, 42}, {example(), 0, 1, []int{0, 4}, 42, 42}, {example(), 0, 1, []int{0, -1}, 42, 42}, {example(), 0, 1, []int{math.MinInt}, 42, 42}, {example(), 0, 1, []int{math.MaxInt}, 42, 42}, {example(), 0, 1, []int{4, 0}, 42, 42},
		{parallel, 0, 1, []int{1}, 0, 42}, {parallel, 0, 1, []int{0, 1, 0}, 0, 42}, {parallel, 0, 2, []int{1, 3}, 42, 0}, {parallel, 1, 1, []int{2, 3}, 42, 42}, {parallel, 1, 2, []int{2, 3, 2}, 42, 42}, {parallel, 2, 0, []int{3, 0}, 42, 0},
		{wrong(), 1, 1, []int{1, 2, 4, 0}, 42, 0}, {wrong(), 1, 1, []int{0, 4, 2, 1}, 42, 0}, {wrong(), 1, 1, nil, 0, 42}, {graph(1), 0, 0, nil, 0, 42}, {graph(1), 0, 0, []int{0}, 42, 42},
	} {
		if err := ties.CheckChain(x.g, x.a, x.b, x.l); err != x.chain {
			t.Error(i, err)
		}
		if err := ties.CheckWhy(x.g, x.a, x.b, x.l); err != x.why {
			t.Error(i, err)
		}
	}
	long := make([]int, 100001) // from 0 to 1, and back, and so on
	if ties.CheckChain(example(), 0, 1, long) != api.OK || ties.CheckChain(example(), 0, 0, long) != api.ErrChain || ties.CheckChain(example(), 0, 0, long[1:]) != api.OK {
		t.Error("long")
	}
	for i := range long {
		long[i] = 2
	}
	if ties.CheckWhy(example(), 2, 3, long) != api.ErrChain || ties.CheckWhy(example(), 2, 3, long[:1]) != api.OK {
		t.Error("long cuts")
	}
}

// P4.3: shortest walks, held against their lengths, and accepted by the checks.
func TestShortestWalks(t *testing.T) {
	seen := map[int]int{} // how many walks there were of a length
	for _, g := range graphs(21, 400, 100) {
		want := lengthsOf(g)
		for a := range g.Nodes {
			for b := range g.Nodes {
				chain, is, err := ties.Chain(g, a, b)
				if is != want.joined(a, b) || err != api.OK || is && (len(chain) != want.chain[a][b] || !isWalk(g, a, b, chain, 0)) || !is && len(chain) > 0 {
					t.Fatal(g, a, b, chain, is, err)
				}
				why, is, err := ties.Why(g, a, b)
				if is != want.apart(a, b) || err != api.OK || is && (len(why) != want.why[a][b] || !isWalk(g, a, b, why, 1)) || !is && len(why) > 0 {
					t.Fatal(g, a, b, why, is, err)
				}
				accepted := (ties.CheckChain(g, a, b, chain) == api.OK) == want.joined(a, b) && (ties.CheckWhy(g, a, b, why) == api.OK) == want.apart(a, b)
				if !accepted {
					t.Fatal(g, a, b, chain, why)
				}
				seen[len(why)]++
			}
		}
	}
	for n := 1; n <= 31; n++ {
		if seen[n] == 0 {
			t.Error("no walk of the length", n)
		}
	}
}

// aWalk returns a list of ties that is mostly a walk from a node, and to which node it comes then.
func aWalk(x *noise, g api.Graph, from int) ([]int, int) {
	var l []int
	for range x.below(7) {
		var at []int
		for i, t := range g.Ties {
			if t.A == from || t.B == from {
				at = append(at, i)
			}
		}
		if len(at) == 0 {
			break
		}
		i := at[x.below(len(at))]
		l = append(l, i)
		from = g.Ties[i].A + g.Ties[i].B - from
	}
	if x.below(4) == 0 {
		l = slices.Insert(l, x.below(len(l)+1), x.from(-1, len(g.Ties)))
	}
	return l, from
}

// P4.3: what is a walk, held against the words of the chapter.
func TestWalks(t *testing.T) {
	x := noise(22)
	var accepted, refused [2]int
	for range 20000 {
		g := aGraph(&x, 6, 9)
		a := x.below(g.Nodes)
		l, b := aWalk(&x, g, a)
		if x.below(4) == 0 {
			b = x.below(g.Nodes)
		}
		kept := slices.Clone(l)
		for cuts, check := range []func(api.Graph, int, int, []int) api.Errno{ties.CheckChain, ties.CheckWhy} {
			want := api.ErrChain
			if isWalk(g, a, b, l, cuts) {
				want = api.OK
				accepted[cuts]++
			} else {
				refused[cuts]++
			}
			if err := check(g, a, b, l); err != want || !slices.Equal(l, kept) {
				t.Fatal(g, a, b, l, cuts, err)
			}
		}
	}
	if min(accepted[0], accepted[1], refused[0], refused[1]) < 1500 {
		t.Error(accepted, refused)
	}
}

// P4.9: two nodes are joined, or kept apart, exactly if some list is accepted. No shortest walk of 3 nodes has more than 5 ties.
func TestSomeWalk(t *testing.T) {
	x := noise(23)
	for range 30 {
		g := aGraph(&x, 3, 4)
		var chains, whys [3][3]bool
		lists(0, len(g.Ties)-1, 5, func(l []int) {
			for a := range g.Nodes {
				for b := range g.Nodes {
					chains[a][b] = chains[a][b] || ties.CheckChain(g, a, b, l) == api.OK
					whys[a][b] = whys[a][b] || ties.CheckWhy(g, a, b, l) == api.OK
				}
			}
		})
		for a := range g.Nodes {
			for b := range g.Nodes {
				if same(t, g, a, b) != chains[a][b] || apart(t, g, a, b) != whys[a][b] {
					t.Fatal(g, a, b, chains[a][b], whys[a][b])
				}
			}
		}
	}
}

// P4.4: the chapter's example, and lists that lack something, have too much, or are in no order.
func TestClashExamples(t *testing.T) {
	several := graph(3, join(0, 1, 1, 0), join(1, 2, 1, 0), join(0, 2, 1, 0), cut(2, 0, 1, 0), cut(0, 1, 1, 0))
	for i, x := range []struct {
		g   api.Graph
		l   []int
		err api.Errno
	}{
		{wrong(), []int{0, 1, 2, 4}, 0}, {wrong(), []int{0, 1, 2, 3, 4}, 42}, {wrong(), []int{0, 1, 2}, 42}, {wrong(), []int{0, 1, 4}, 42}, {wrong(), []int{4, 2, 1, 0}, 42}, {wrong(), []int{0, 1, 4, 2}, 42}, {wrong(), []int{0, 1, 2, 5}, 42}, {wrong(), []int{-1, 0, 1, 2, 4}, 42}, {wrong(), []int{0, 0, 1, 2, 4}, 42}, {wrong(), []int{0, 1, 2, 4, 4}, 42}, {wrong(), []int{0, 1, 2, 4, 5}, 42}, {wrong(), nil, 42},
		{wrong(), []int{math.MinInt}, 42}, {wrong(), []int{0, 1, 2, 4, math.MaxInt}, 42}, {example(), nil, 42}, {example(), []int{0, 1, 2, 3}, 42}, {graph(1), []int{0}, 42},
		{several, []int{2, 3}, 0}, {several, []int{0, 1, 3}, 0}, {several, []int{0, 4}, 0}, {several, []int{1, 2, 4}, 0}, {several, []int{0, 1, 2, 3}, 42}, {several, []int{1, 2, 3}, 42}, {several, []int{0, 1, 3, 4}, 42}, {several, []int{2, 3, 4}, 42}, {several, []int{0, 1, 2, 3, 4}, 42}, {several, []int{3, 4}, 42}, {several, []int{0, 1, 2}, 42}, {several, []int{3}, 42},
	} {
		if err := ties.CheckClash(x.g, x.l); err != x.err {
			t.Error(i, err)
		}
	}
	if l, is, err := ties.Clash(wrong()); !slices.Equal(l, []int{0, 1, 2, 4}) || !is || err != api.OK {
		t.Error(l, is, err)
	}
	if l, is, err := ties.Clash(example()); len(l) > 0 || is || err != api.OK {
		t.Error(l, is, err)
	}
	ring := with(line(32), join(31, 0, 1, 1))
	if l, is, err := ties.Clash(ring); len(l) != 32 || !is || err != api.OK || ties.CheckClash(ring, l) != api.OK || ties.CheckClash(ring, l[1:]) != api.ErrChain {
		t.Error(l, is, err)
	}
	if l, is, err := ties.Clash(full()); len(l) > 0 || is || err != api.OK {
		t.Error(l, is, err)
	}
	most := full()
	most.Ties[511] = cut(0, 2, 1, 0)
	if l, is, err := ties.Clash(most); !isClash(most, l) || !is || err != api.OK {
		t.Error(l, is, err)
	}
	all := make([]int, 512)
	for i := range all {
		all[i] = i
	}
	if ties.CheckClash(most, all) != api.ErrChain || ties.CheckClash(full(), all) != api.ErrChain {
		t.Error("all")
	}
}

// P4.4 and P4.9: Clash, held against what contradicts itself, and CheckClash against what a clash is.
func TestClash(t *testing.T) {
	clashes := 0
	for _, g := range graphs(24, 600, 200) {
		l, is, err := ties.Clash(g)
		if is != contradicts(g) || err != api.OK || is && (!isClash(g, l) || ties.CheckClash(g, l) != api.OK) || !is && len(l) > 0 {
			t.Fatal(g, l, is, err)
		}
		if is {
			clashes++
		}
	}
	if clashes < 200 || clashes > 600 {
		t.Error(clashes)
	}
}

// P4.4 and P4.9: all lists, in each order, with what is no tie; a graph contradicts itself exactly if one is accepted.
func TestSomeClash(t *testing.T) {
	x := noise(25)
	several := 0
	for range 60 {
		g := aGraph(&x, 3, 5)
		accepted := 0
		lists(-1, len(g.Ties), 4, func(l []int) {
			want := api.ErrChain
			if isClash(g, l) {
				want = api.OK
				accepted++
			}
			kept := slices.Clone(l)
			if err := ties.CheckClash(g, l); err != want || !slices.Equal(l, kept) {
				t.Fatal(g, l, err)
			}
		})
		if contradicts(g) != (accepted > 0) {
			t.Fatal(g, accepted)
		}
		if accepted > 1 {
			several++
		}
	}
	if several < 5 {
		t.Error(several)
	}
}

// R2 of P4.2 to P4.4: results are memory of their own, and a changed result changes no later one.
func TestMemoryOfLists(t *testing.T) {
	for _, g := range []api.Graph{example(), wrong(), line(32)} {
		for _, f := range []func() []int{
			func() []int { l, _ := ties.Groups(g); return l },
			func() []int { _, l, _ := ties.Quotient(g); return l },
			func() []int { l, _, _ := ties.Chain(g, 0, 2); return l },
			func() []int { l, _, _ := ties.Why(g, 0, 3); return l },
			func() []int { l, _, _ := ties.Clash(g); return l },
			func() []int { l, _ := ties.Bridges(g); return l },
			func() []int { l, _ := ties.Rests(g, 0, 2); return l },
		} {
			l := f()
			kept := slices.Clone(l)
			clear(l[:cap(l)])
			if again := f(); !slices.Equal(again, kept) {
				t.Error(again, kept)
			}
		}
	}
}
