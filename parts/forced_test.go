package parts_test

import (
	"math"
	"slices"
	"testing"

	"bonehouse/api"
	"bonehouse/count"
	"bonehouse/parts"
)

// copied returns a list of steps that shares no memory with l.
func copied(l []api.Step) []api.Step {
	l = slices.Clone(l)
	for i := range l {
		l[i].Clique = slices.Clone(l[i].Clique)
	}
	return l
}

// sameSteps reports whether two lists of steps are equal.
func sameSteps(l, m []api.Step) bool {
	return slices.EqualFunc(l, m, func(s, r api.Step) bool {
		return s.A == r.A && s.B == r.B && s.Together == r.Together && s.Apart == r.Apart && slices.Equal(s.Clique, r.Clique)
	})
}

// judged returns what CheckForced is to return for a graph with fewer than 512 ties, and nodes that it has, as the chapter says it.
func judged(g api.Graph, most, a, b int, same bool, l []api.Step) api.Errno {
	if a == b {
		if same && len(l) == 0 {
			return api.OK
		}
		return api.ErrProof
	}
	question := with(g, join(a, b))
	if same {
		question = with(g, cut(a, b))
	}
	if relatedIn(question).contradicts() {
		if len(l) == 1 && sameSteps(l, []api.Step{{}}) {
			return api.OK
		}
		return api.ErrProof
	}
	if most == 0 {
		most = g.Nodes
	}
	if count.CheckProof(question, most, l) != api.OK {
		return api.ErrProof
	}
	return api.OK
}

// forced returns what Forced returns of nodes of a graph that is right, which CheckForced accepts if it is there.
func forced(t testing.TB, g api.Graph, most, a, b int, same bool) ([]api.Step, bool) {
	t.Helper()
	l, is, err := parts.Forced(g, most, a, b, same)
	if err != api.OK || !is && len(l) > 0 || len(l) > api.MaxSteps {
		t.Fatal(g, most, a, b, same, l, is, err)
	}
	if is && (parts.CheckForced(g, most, a, b, same, l) != api.OK || judged(g, most, a, b, same, l) != api.OK) {
		t.Fatal(g, most, a, b, same, l)
	}
	return l, is
}

// P6.5: nodes and their proofs, and lists that prove nothing.
func TestForcedExamples(t *testing.T) {
	g := example(cut(2, 3))
	zero, clique := []api.Step{{}}, []api.Step{{Clique: []int{0, 2, 3}}}
	five := with(ring(5), cut(0, 2), cut(0, 3))
	for i, x := range []struct {
		g          api.Graph
		most, a, b int
		same       bool
		l          []api.Step
		err        api.Errno
	}{
		{g, 2, 3, 0, true, clique, api.OK}, {g, 2, 0, 3, true, clique, api.OK}, {g, 2, 3, 0, true, []api.Step{{Clique: []int{1, 2, 3}}}, api.OK}, {g, 2, 3, 0, true, []api.Step{{Clique: []int{0, 1, 3}}}, api.ErrProof}, {g, 2, 3, 0, true, zero, api.ErrProof}, {g, 2, 3, 0, true, nil, api.ErrProof}, {g, 2, 3, 0, false, clique, api.ErrProof}, {g, 3, 3, 0, true, clique, api.ErrProof}, {g, 0, 3, 0, true, clique, api.ErrProof}, {g, 1, 3, 0, true, clique, api.ErrProof}, {g, 1, 3, 0, true, []api.Step{{Clique: []int{0, 2}}}, api.OK}, {g, 1, 3, 0, false, []api.Step{{Clique: []int{0, 2}}}, api.OK}, {g, 1, 3, 0, false, []api.Step{{Clique: []int{0, 3}}}, api.ErrProof},
		{g, 0, 0, 2, false, zero, api.OK}, {g, 32, 0, 2, false, zero, api.OK}, {g, 1, 0, 2, false, zero, api.OK}, {g, 0, 2, 1, false, []api.Step{{Clique: []int{}}}, api.OK}, {g, 0, 0, 2, false, nil, api.ErrProof}, {g, 0, 0, 2, false, []api.Step{{}, {}}, api.ErrProof}, {g, 0, 0, 2, true, zero, api.ErrProof}, {g, 0, 0, 2, false, []api.Step{{A: 1}}, api.ErrProof}, {g, 0, 0, 2, false, []api.Step{{B: 1}}, api.ErrProof}, {g, 0, 0, 2, false, []api.Step{{Together: 1}}, api.ErrProof}, {g, 0, 0, 2, false, []api.Step{{Apart: 1}}, api.ErrProof}, {g, 0, 0, 2, false, []api.Step{{Clique: []int{0}}}, api.ErrProof}, {g, 1, 0, 2, false, []api.Step{{Clique: []int{0, 2}}}, api.ErrProof}, {g, 0, 0, 2, false, []api.Step{{A: 0, B: 1, Together: 1, Apart: 2}, {}, {}}, api.ErrProof},
		{g, 0, 0, 1, true, zero, api.OK}, {g, 2, 1, 0, true, zero, api.OK}, {g, 0, 0, 1, false, zero, api.ErrProof}, {g, 0, 1, 0, true, nil, api.ErrProof}, {g, 0, 0, 1, true, make([]api.Step, 5000), api.ErrProof},
		{g, 0, 3, 3, true, nil, api.OK}, {g, 1, 3, 3, true, []api.Step{}, api.OK}, {g, 0, 3, 3, true, zero, api.ErrProof}, {g, 0, 3, 3, false, nil, api.ErrProof}, {g, 0, 3, 3, false, zero, api.ErrProof}, {g, 1, 3, 3, false, []api.Step{{Clique: []int{0, 2}}}, api.ErrProof},
		{g, 2, 3, 0, true, make([]api.Step, 4096), api.ErrProof}, {g, 2, 3, 0, true, make([]api.Step, 4097), api.ErrProof}, {g, 2, 3, 0, true, make([]api.Step, 5000), api.ErrProof},
		{five, 3, 1, 4, false, []api.Step{{A: 2, B: 4, Together: 1, Apart: 2}, {Clique: []int{0, 1, 2, 3}}, {Clique: []int{0, 2, 3, 4}}}, api.OK}, {five, 3, 1, 3, true, []api.Step{{Clique: []int{0, 1, 2, 3}}}, api.OK}, {five, 4, 1, 3, true, []api.Step{{Clique: []int{0, 1, 2, 3}}}, api.ErrProof},
	} {
		kept := copied(x.l)
		if err := parts.CheckForced(x.g, x.most, x.a, x.b, x.same, x.l); err != x.err || err != judged(x.g, x.most, x.a, x.b, x.same, x.l) || !sameSteps(x.l, kept) {
			t.Error(i, err)
		}
		if _, is := forced(t, x.g, x.most, x.a, x.b, x.same); !is && x.err == api.OK {
			t.Error(i, is)
		}
	}
}

// P6.5: of a node and itself it is proved by nothing that it is of one person, and not that it never is, also if no partition is allowed.
func TestForcedOfOne(t *testing.T) {
	for _, g := range append(small(20, 30, 6), widest(21)...) {
		for _, most := range []int{0, 1, 2, 32} {
			for n := range g.Nodes {
				if l, is := forced(t, g, most, n, n, true); !is || len(l) > 0 {
					t.Fatal(g, most, n, l, is)
				}
				if l, is := forced(t, g, most, n, n, false); is {
					t.Fatal(g, most, n, l, is)
				}
			}
		}
	}
}

// checkForced holds Forced of two different nodes against all allowed partitions, and returns whether there is a proof.
func checkForced(t *testing.T, g api.Graph, most, a, b int, same bool, all [][]int) bool {
	t.Helper()
	l, is := forced(t, g, most, a, b, same)
	// There is no partition that has them otherwise.
	if other := slices.ContainsFunc(all, func(l []int) bool { return (l[a] == l[b]) != same }); is == other {
		t.Fatal(g, most, a, b, same, l, is)
	}
	find := parts.Together
	if same {
		find = parts.Separate
	}
	if p, other, err := find(g, most, a, b); other == is || err != api.OK || other && (p[a] == p[b]) == same {
		t.Fatal(g, most, a, b, same, p, other, err)
	}
	return is
}

// P6.5 and P6.7: there is a proof exactly if there is no partition that has the nodes otherwise, for all pairs of graphs of few nodes and all numbers of people.
func TestForced(t *testing.T) {
	seen := map[bool]int{}
	for _, g := range small(22, 120, 6) {
		for _, most := range mosts(g.Nodes) {
			all := allowed(g, most)
			for a := range g.Nodes {
				for b := range g.Nodes {
					if a != b {
						seen[checkForced(t, g, most, a, b, true, all)]++
						seen[checkForced(t, g, most, a, b, false, all)]++
					}
				}
			}
		}
	}
	if min(seen[false], seen[true]) < 5000 {
		t.Error(seen)
	}
}

// P6.5 and P6.7: graphs of up to 10 groups and 32 nodes.
func TestForcedWide(t *testing.T) {
	x := noise(23)
	seen := map[bool]int{}
	for people := 2; people <= 5; people++ {
		for _, g := range []api.Graph{tight(&x, 10, people), tight(&x, 9, people), wide(&x, 10, 60), twice()} {
			for _, most := range []int{people - 1, people, people + 1} {
				all := collect(t, g, most)
				for range 40 {
					order := x.order(g.Nodes)
					seen[checkForced(t, g, most, order[0], order[1], x.below(2) == 0, all)]++
				}
			}
		}
	}
	if min(seen[false], seen[true]) < 200 {
		t.Error(seen)
	}
}

// changed returns a list of steps with a change.
func changed(x *noise, l []api.Step, nodes int) []api.Step {
	l = copied(l)
	if len(l) == 0 {
		return []api.Step{{}}
	}
	s := &l[x.below(len(l))]
	switch x.below(9) {
	case 0:
		s.A = x.from(-1, nodes)
	case 1:
		s.B = x.from(-1, nodes)
	case 2:
		s.Together = x.from(-1, len(l))
	case 3:
		s.Apart = x.from(-1, len(l))
	case 4:
		s.Together, s.Apart = s.Apart, s.Together
	case 5:
		s.Clique = slices.Insert(s.Clique, x.below(len(s.Clique)+1), x.below(nodes))
	case 6:
		s.Clique = nil
	case 7:
		if len(s.Clique) > 0 {
			s.Clique[x.below(len(s.Clique))] = x.from(-1, nodes)
		}
	case 8:
		l = l[:len(l)-1]
	}
	return l
}

// P6.5 and P6.7: CheckForced, held against the chapter's words, for proofs of other questions and for what is almost a proof. What it accepts is so in all allowed partitions.
func TestProofsOfOthers(t *testing.T) {
	x := noise(24)
	seen := map[api.Errno]int{}
	longest := 0
	for _, g := range append(small(25, 60, 5), ring(7), with(ring(7), cut(0, 2), cut(0, 3), cut(0, 4)), twice(), twice()) {
		for _, most := range []int{0, 1, 2, 3, 5, 6} {
			all := collect(t, g, most)
			for range 50 {
				a, b, same := x.below(g.Nodes), x.below(g.Nodes), x.below(2) == 0
				l, _ := forced(t, g, x.below(7), x.below(g.Nodes), x.below(g.Nodes), x.below(2) == 0)
				if x.below(2) == 0 {
					l, _ = forced(t, g, most, a, b, same)
				}
				longest = max(longest, len(l))
				if x.below(3) > 0 {
					l = changed(&x, l, g.Nodes)
				}
				err := parts.CheckForced(g, most, a, b, same, l)
				if err != judged(g, most, a, b, same, l) {
					t.Fatal(g, most, a, b, same, l, err)
				}
				if err == api.OK && slices.ContainsFunc(all, func(p []int) bool { return (p[a] == p[b]) != same }) {
					t.Fatal(g, most, a, b, same, l)
				}
				seen[err]++
			}
		}
	}
	if min(seen[api.OK], seen[api.ErrProof]) < 2000 || longest < 7 {
		t.Error(seen, longest)
	}
}

// P6.5: a graph with 512 ties can have no question, whatever else is wrong; one with 511 can.
func TestForcedLimit(t *testing.T) {
	g := filled(example(cut(2, 3)))
	for _, x := range [][3]int{{0, 0, 1}, {0, 0, 2}, {2, 0, 3}, {2, 3, 3}, {-1, 0, 1}, {33, 0, 1}, {0, -1, 0}, {0, 0, 4}, {0, 9, math.MaxInt}} {
		for _, same := range []bool{false, true} {
			if l, is, err := parts.Forced(g, x[0], x[1], x[2], same); len(l) > 0 || is || err != api.ErrLimit {
				t.Error(x, same, l, is, err)
			}
			for _, l := range [][]api.Step{nil, {{}}, {{Clique: []int{0, 2, 3}}}} {
				if err := parts.CheckForced(g, x[0], x[1], x[2], same, l); err != api.ErrLimit {
					t.Error(x, same, l, err)
				}
			}
		}
	}
	g.Ties = slices.Clip(g.Ties[:511])
	for _, x := range [][3]int{{0, 0, 1}, {2, 0, 3}, {2, 3, 3}} {
		if _, is := forced(t, g, x[0], x[1], x[2], true); !is {
			t.Error(x)
		}
	}
	if _, is := forced(t, g, 0, 0, 2, false); !is {
		t.Error(is)
	}
	// What a graph contradicts counts ahead of it, and so does what is no graph.
	if _, _, err := parts.Forced(filled(graph(2, cut(0, 1), join(0, 1))), 0, 0, 1, true); err != api.ErrClash {
		t.Error(err)
	}
	if err := parts.CheckForced(with(g, cut(0, 2), cut(0, 2)), 0, 0, 1, true, nil); err != api.ErrGraph {
		t.Error(err)
	}
}

// R2 of P6.5: the question of two nodes leaves the ties of the graph as they are, also behind their end.
func TestForcedMemory(t *testing.T) {
	g := example(cut(2, 3))
	g.Ties = slices.Grow(g.Ties, 10)
	kept := slices.Clone(g.Ties[:10])
	for a := range 4 {
		for b := range 4 {
			l, _ := forced(t, g, 2, a, b, true)
			m, _ := forced(t, g, 2, a, b, true)
			before := copied(m)
			for i := range l {
				clear(l[i].Clique)
				l[i].A = 9
			}
			if !sameSteps(m, before) || !slices.Equal(g.Ties[:10], kept) {
				t.Fatal(a, b, m, g)
			}
			if _, _, err := parts.Together(g, 2, a, b); err != api.OK || !slices.Equal(g.Ties[:10], kept) {
				t.Fatal(a, b, g, err)
			}
		}
	}
}
