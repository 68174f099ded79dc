package ties_test

import (
	"slices"
	"testing"

	"bonehouse/api"
	"bonehouse/ties"
)

// P4.2: the chapter's examples.
func TestGroupExamples(t *testing.T) {
	for i, x := range []struct {
		g    api.Graph
		want []int
	}{
		{example(), []int{0, 0, 0, 3, 3}}, {wrong(), []int{0, 0, 0, 0, 0}}, {graph(1), []int{0}}, {graph(3), []int{0, 1, 2}},
		{graph(4, join(3, 2, 1, 0), join(2, 1, 1, 0)), []int{0, 1, 1, 1}}, {graph(4, join(3, 0, 1, 0), join(2, 1, 1, 0), cut(0, 1, 1, 0)), []int{0, 1, 1, 0}},
		{graph(5, join(4, 3, 1, 0), join(2, 1, 1, 0), join(3, 1, 1, 0)), []int{0, 1, 1, 1, 1}},
	} {
		if l, err := ties.Groups(x.g); !slices.Equal(l, x.want) || err != api.OK {
			t.Error(i, l, err)
		}
	}
	if g := example(); !same(t, g, 0, 2) || !apart(t, g, 0, 4) || apart(t, g, 0, 0) || same(t, g, 0, 4) {
		t.Error(g)
	}
	if g := wrong(); !apart(t, g, 1, 1) || !same(t, g, 1, 1) || !apart(t, g, 0, 4) || !same(t, g, 0, 4) {
		t.Error(g)
	}
}

// P4.2: Groups, Same and Apart, held against the lengths of walks.
func TestGroups(t *testing.T) {
	for _, g := range graphs(11, 600, 100) {
		l := lengthsOf(g)
		groups, err := ties.Groups(g)
		if len(groups) != g.Nodes || err != api.OK {
			t.Fatal(g, groups, err)
		}
		for a := range g.Nodes {
			if groups[a] != slices.IndexFunc(l.chain[a][:g.Nodes], func(n int) bool { return n < far }) {
				t.Fatal(g, a, groups)
			}
			for b := range g.Nodes {
				if same(t, g, a, b) != l.joined(a, b) || apart(t, g, a, b) != l.apart(a, b) {
					t.Fatal(g, a, b)
				}
			}
		}
	}
}

// ways calls each with all ways to give so many nodes people.
func ways(nodes int, each func(people []int)) {
	people := make([]int, nodes)
	for {
		each(people)
		n := 0
		for n < nodes && people[n] == nodes-1 {
			people[n] = 0
			n++
		}
		if n == nodes {
			return
		}
		people[n]++
	}
}

// allows reports whether g allows a way: the nodes of each join have the same person, those of each cut different ones.
func allows(g api.Graph, people []int) bool {
	return !slices.ContainsFunc(g.Ties, func(t api.Tie) bool {
		return (people[t.A] == people[t.B]) != (t.Kind == api.TogetherT)
	})
}

// P4.8: joined and kept apart, over all ways to give each node a person.
func TestAllWays(t *testing.T) {
	x := noise(12)
	sound := 0
	for range 300 {
		g := aGraph(&x, 5, 6)
		allowed := 0
		var one, different [5][5]int // in how many of them two nodes have one person, or different ones
		ways(g.Nodes, func(people []int) {
			if !allows(g, people) {
				return
			}
			allowed++
			for a := range g.Nodes {
				for b := range g.Nodes {
					if people[a] == people[b] {
						one[a][b]++
					} else {
						different[a][b]++
					}
				}
			}
		})
		_, clash, err := ties.Clash(g)
		if clash != (allowed == 0) || err != api.OK {
			t.Fatal(g, clash, err, allowed)
		}
		if clash {
			continue
		}
		sound++
		for a := range g.Nodes {
			for b := range g.Nodes {
				if same(t, g, a, b) != (one[a][b] == allowed) || apart(t, g, a, b) != (different[a][b] == allowed) {
					t.Fatal(g, a, b, one[a][b], different[a][b], allowed)
				}
			}
		}
	}
	if sound < 100 || sound > 250 {
		t.Error(sound)
	}
}

// P4.6: the chapter's example, and which cut counts of several.
func TestQuotientExamples(t *testing.T) {
	for i, x := range []struct {
		g, want api.Graph
		numbers []int
	}{
		{example(), graph(2, cut(0, 1, 70, 1)), []int{0, 0, 0, 1, 1}},
		{with(example(), cut(4, 0, 80, 9), cut(4, 1, 80, 8)), graph(2, cut(0, 1, 80, 9)), []int{0, 0, 0, 1, 1}},
		{with(example(), cut(4, 0, 60, 9), cut(4, 1, 70, 8)), graph(2, cut(0, 1, 70, 1)), []int{0, 0, 0, 1, 1}},
		{graph(1), graph(1), []int{0}},
		{graph(3, join(0, 2, 1, 0)), graph(2), []int{0, 1, 0}},
		{graph(4, cut(3, 2, 5, 1), cut(2, 0, 6, 2), cut(0, 1, 7, 3), cut(1, 3, 8, 4)), graph(4, cut(0, 1, 7, 3), cut(0, 2, 6, 2), cut(1, 3, 8, 4), cut(2, 3, 5, 1)), []int{0, 1, 2, 3}},
		{graph(4, join(3, 1, 1, 1), cut(2, 3, 9, 5), cut(0, 2, 9, 6), cut(1, 2, 9, 7)), graph(3, cut(0, 2, 9, 6), cut(1, 2, 9, 5)), []int{0, 1, 2, 1}},
	} {
		if q, l, err := ties.Quotient(x.g); !sameGraph(q, x.want) || !slices.Equal(l, x.numbers) || err != api.OK {
			t.Error(i, q, l, err)
		}
	}
	for i, g := range []api.Graph{wrong(), graph(2, join(0, 1, 1, 0), cut(1, 0, 1, 0)), with(line(32), join(0, 31, 1, 1))} {
		if q, l, err := ties.Quotient(g); !sameGraph(q, api.Graph{}) || len(l) > 0 || err != api.ErrClash {
			t.Error(i, q, l, err)
		}
	}
}

// quotient returns the quotient of a graph that does not contradict itself, as the chapter tells it.
func quotient(g api.Graph) (api.Graph, []int) {
	l := lengthsOf(g)
	var leasts []int
	numbers := make([]int, g.Nodes)
	for n := range g.Nodes {
		numbers[n] = slices.IndexFunc(leasts, func(least int) bool { return l.joined(least, n) })
		if numbers[n] < 0 {
			numbers[n] = len(leasts)
			leasts = append(leasts, n)
		}
	}
	q := graph(len(leasts))
	for a := range leasts {
		for b := a + 1; b < len(leasts); b++ {
			best := api.Tie{}
			for _, t := range g.Ties {
				if (numbers[t.A] == a && numbers[t.B] == b || numbers[t.A] == b && numbers[t.B] == a) && t.Strength > best.Strength {
					best = cut(a, b, t.Strength, t.Source)
				}
			}
			if best.Strength > 0 {
				q.Ties = append(q.Ties, best)
			}
		}
	}
	return q, numbers
}

// P4.6 and P4.13: the quotient, what its nodes are, and its quotient.
func TestQuotient(t *testing.T) {
	clashes, cuts := 0, 0
	for _, g := range append(graphs(13, 600, 100), graph(32, picked(full(), func(_ int, x api.Tie) bool { return x.Kind == api.ApartT }).Ties...)) {
		q, numbers, err := ties.Quotient(g)
		if contradicts(g) {
			if !sameGraph(q, api.Graph{}) || len(numbers) > 0 || err != api.ErrClash {
				t.Fatal(g, q, numbers, err)
			}
			clashes++
			continue
		}
		want, of := quotient(g)
		if !sameGraph(q, want) || !slices.Equal(numbers, of) || err != api.OK || ties.Check(q) != api.OK {
			t.Fatal(g, q, numbers, err, want, of)
		}
		cuts += len(q.Ties)
		for _, x := range q.Ties {
			if x.Kind != api.ApartT {
				t.Fatal(g, q)
			}
		}
		for a := range g.Nodes {
			for b := range g.Nodes {
				if apart(t, q, numbers[a], numbers[b]) != apart(t, g, a, b) || same(t, q, numbers[a], numbers[b]) != same(t, g, a, b) {
					t.Fatal(g, q, a, b)
				}
			}
		}
		again, identity, err := ties.Quotient(q)
		if !sameGraph(again, q) || err != api.OK || len(identity) != q.Nodes {
			t.Fatal(q, again, identity, err)
		}
		for n, number := range identity {
			if n != number {
				t.Fatal(q, identity)
			}
		}
	}
	if clashes < 100 || cuts < 300 {
		t.Error(clashes, cuts)
	}
}

// P4.14: what a further tie leaves as it was.
func TestMoreTies(t *testing.T) {
	x := noise(14)
	for range 400 {
		g := aGraph(&x, 6, 8)
		h, err := ties.Add(g, aTie(&x, g.Nodes))
		if err != api.OK {
			t.Fatal(g, err)
		}
		for a := range g.Nodes {
			for b := range g.Nodes {
				if same(t, g, a, b) && !same(t, h, a, b) || apart(t, g, a, b) && !apart(t, h, a, b) {
					t.Fatal(g, h, a, b)
				}
			}
		}
	}
}

// P4.14: two graphs merged in either order, and one with itself.
func TestMergedOrders(t *testing.T) {
	x := noise(15)
	for range 400 {
		g := aGraph(&x, 6, 6)
		h := graph(g.Nodes)
		for range x.below(6) {
			h.Ties = append(h.Ties, aTie(&x, g.Nodes))
			if len(g.Ties) > 0 && x.below(2) == 0 {
				h.Ties = append(h.Ties, g.Ties[x.below(len(g.Ties))])
			}
		}
		one, err := ties.Merge(g, h)
		other, bad := ties.Merge(h, g)
		all := lengthsOf(with(g, h.Ties...))
		if err != api.OK || bad != api.OK {
			t.Fatal(g, h, err, bad)
		}
		first, _ := ties.Groups(one)
		second, _ := ties.Groups(other)
		if !slices.Equal(first, second) {
			t.Fatal(g, h, first, second)
		}
		for a := range g.Nodes {
			for b := range g.Nodes {
				if apart(t, one, a, b) != all.apart(a, b) || apart(t, other, a, b) != all.apart(a, b) || same(t, one, a, b) != all.joined(a, b) {
					t.Fatal(g, h, a, b)
				}
			}
		}
		if twice, err := ties.Merge(g, g); !sameGraph(twice, g) || err != api.OK {
			t.Fatal(g, twice, err)
		}
		if again, err := ties.Merge(one, h); !sameGraph(again, one) || err != api.OK {
			t.Fatal(one, h, again, err)
		}
	}
}
