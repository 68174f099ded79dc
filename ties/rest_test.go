package ties_test

import (
	"slices"
	"testing"

	"bonehouse/api"
	"bonehouse/ties"
)

// P4.5: the chapter's examples, and joins beside others.
func TestBridgeExamples(t *testing.T) {
	for i, x := range []struct {
		g    api.Graph
		want []int
	}{
		{example(), []int{0, 1, 3}}, {wrong(), []int{0, 1, 3, 4}}, {with(example(), join(4, 3, 1, 0)), []int{0, 1}}, {with(example(), join(2, 0, 1, 0)), []int{3}},
		{graph(1), nil}, {graph(2, cut(0, 1, 1, 0)), nil}, {graph(2, join(0, 1, 1, 0)), []int{0}}, {graph(2, join(0, 1, 1, 0), cut(0, 1, 1, 0)), []int{0}}, {graph(2, join(0, 1, 1, 0), join(0, 1, 1, 0)), nil},
		{graph(6, join(0, 1, 1, 0), join(1, 2, 1, 0), join(2, 0, 1, 0), join(2, 3, 1, 0), join(3, 4, 1, 0), join(4, 5, 1, 0), join(5, 3, 1, 0)), []int{3}},
		{full(), nil},
	} {
		if l, err := ties.Bridges(x.g); !slices.Equal(l, x.want) || err != api.OK {
			t.Error(i, l, err)
		}
	}
}

// P4.5 and P4.10: a join is a bridge exactly if, without it, its nodes are not joined, or any others that are.
func TestBridges(t *testing.T) {
	bridges, others := 0, 0
	for _, g := range graphs(31, 400, 100) {
		l := lengthsOf(g)
		var want []int
		for i, x := range g.Ties {
			less := lengthsOf(but(g, i))
			lost := false
			for a := range g.Nodes {
				for b := range g.Nodes {
					lost = lost || l.joined(a, b) && !less.joined(a, b)
				}
			}
			if lost != (x.Kind == api.TogetherT && !same(t, but(g, i), x.A, x.B)) {
				t.Fatal(g, i)
			}
			if lost {
				want = append(want, i)
			}
		}
		got, err := ties.Bridges(g)
		if !slices.Equal(got, want) || err != api.OK {
			t.Fatal(g, got, err, want)
		}
		bridges += len(got)
		others += len(g.Ties) - len(got)
	}
	if bridges < 400 || others < 1000 {
		t.Error(bridges, others)
	}
}

// P4.10: a bridge is in each chain between its nodes, and any other join is not.
func TestBridgesInChains(t *testing.T) {
	x := noise(32)
	for range 40 {
		g := aGraph(&x, 4, 5)
		l, err := ties.Bridges(g)
		if err != api.OK {
			t.Fatal(g, err)
		}
		avoided := make([]bool, len(g.Ties)) // by some chain between its nodes
		lists(0, len(g.Ties)-1, 4, func(chain []int) {
			for i, x := range g.Ties {
				if !slices.Contains(chain, i) && ties.CheckChain(g, x.A, x.B, chain) == api.OK {
					avoided[i] = true
				}
			}
		})
		for i, x := range g.Ties {
			if x.Kind == api.TogetherT && slices.Contains(l, i) == avoided[i] {
				t.Fatal(g, i, l)
			}
		}
	}
}

// P4.5: the chapter's examples of strengths.
func TestStrengthExamples(t *testing.T) {
	for i, x := range []struct {
		g          api.Graph
		a, b, want int
		is         bool
	}{
		{example(), 0, 2, 20, true}, {example(), 2, 0, 20, true}, {example(), 0, 1, 50, true}, {example(), 0, 3, 0, false}, {example(), 4, 4, 101, true}, {wrong(), 2, 4, 20, true}, {wrong(), 1, 4, 50, true},
		{graph(1), 0, 0, 101, true}, {graph(2), 0, 1, 0, false}, {graph(2, cut(0, 1, 100, 0)), 0, 1, 0, false}, {graph(2, join(0, 1, 100, 0)), 0, 1, 100, true}, {graph(2, join(0, 1, 1, 0)), 1, 0, 1, true}, {graph(2, join(0, 1, 1, 0)), 1, 1, 101, true},
		{graph(2, join(0, 1, 5, 0), join(1, 0, 7, 0), join(0, 1, 6, 0)), 0, 1, 7, true}, {graph(3, join(0, 1, 5, 0), join(0, 2, 9, 0), join(1, 2, 8, 0)), 0, 1, 8, true}, {graph(3, join(0, 1, 5, 0), join(0, 2, 9, 0), join(1, 2, 4, 0)), 0, 1, 5, true},
		{line(32), 0, 30, 71, true}, {line(32), 0, 31, 0, false},
	} {
		if n, is, err := ties.Widest(x.g, x.a, x.b); n != x.want || is != x.is || err != api.OK {
			t.Error(i, n, is, err)
		}
	}
	for i, x := range []struct {
		g    api.Graph
		want int
	}{
		{example(), 1}, {wrong(), 21}, {graph(1), 1}, {full(), 1}, {with(line(32), join(0, 31, 40, 0)), 41}, {with(line(32), join(0, 31, 60, 0)), 51},
		{graph(2, cut(0, 1, 100, 0), join(0, 1, 100, 0)), 101}, {graph(2, cut(0, 1, 100, 0), join(0, 1, 99, 0)), 100}, {graph(2, cut(0, 1, 1, 0), join(0, 1, 100, 0)), 2}, {graph(2, cut(0, 1, 5, 0), join(0, 1, 6, 0), cut(1, 0, 4, 0), join(1, 0, 7, 0)), 6},
	} {
		if n, err := ties.Soundest(x.g); n != x.want || err != api.OK {
			t.Error(i, n, err)
		}
	}
}

// widths returns how strong the strongest chains are from each node to each other one, going through the nodes by which they can come; 0 if there is none.
func widths(g api.Graph) [api.MaxNodes][api.MaxNodes]int {
	var w [api.MaxNodes][api.MaxNodes]int
	for n := range g.Nodes {
		w[n][n] = 101
	}
	for _, t := range g.Ties {
		if t.Kind == api.TogetherT {
			w[t.A][t.B] = max(w[t.A][t.B], t.Strength)
			w[t.B][t.A] = w[t.A][t.B]
		}
	}
	for by := range g.Nodes {
		for a := range g.Nodes {
			for b := range g.Nodes {
				w[a][b] = max(w[a][b], min(w[a][by], w[by][b]))
			}
		}
	}
	return w
}

// P4.5 and P4.11: the strongest chains.
func TestWidest(t *testing.T) {
	widest := func(g api.Graph, a, b int) int {
		n, is, err := ties.Widest(g, a, b)
		if is != same(t, g, a, b) || !is && n != 0 || err != api.OK {
			t.Fatal(g, a, b, n, is, err)
		}
		return n
	}
	for _, g := range graphs(33, 300, 60) {
		want := widths(g)
		for a := range g.Nodes {
			for b := range g.Nodes {
				n := widest(g, a, b)
				if n != want[a][b] || n != widest(g, b, a) {
					t.Fatal(g, a, b, n, want[a][b])
				}
				if n == 0 || n == 101 {
					continue
				}
				// Some chain is as strong, and without the ties that are as weak there is none.
				enough, _ := ties.Strong(g, n)
				chain, is, err := ties.Chain(enough, a, b)
				least := 101
				for _, i := range chain {
					least = min(least, enough.Ties[i].Strength)
				}
				stronger, bad := ties.Strong(g, n+1)
				if !is || least != n || err != api.OK || bad != api.OK || same(t, stronger, a, b) {
					t.Fatal(g, a, b, n, least, is, err, bad)
				}
			}
		}
	}
	x := noise(34)
	for range 300 {
		g := aGraph(&x, 5, 8)
		for a := range g.Nodes {
			for b := range g.Nodes {
				for c := range g.Nodes {
					if widest(g, a, c) < min(widest(g, a, b), widest(g, b, c)) {
						t.Fatal(g, a, b, c)
					}
				}
			}
		}
	}
}

// P4.5 and P4.12: below Soundest a graph contradicts itself, from it on it does not.
func TestSoundest(t *testing.T) {
	above := 0
	for _, g := range graphs(35, 300, 60) {
		n, err := ties.Soundest(g)
		if n < 1 || n > 101 || err != api.OK {
			t.Fatal(g, n, err)
		}
		if n > 1 {
			above++
		}
		for strength := 1; strength <= 101; strength++ {
			h, _ := ties.Strong(g, strength)
			_, clash, err := ties.Clash(h)
			if clash != (strength < n) || clash != contradicts(h) || err != api.OK {
				t.Fatal(g, n, strength, clash, err)
			}
		}
	}
	if above < 100 {
		t.Error(above)
	}
}

// P4.7: the chapter's examples, and what rests on no source alone.
func TestRestExamples(t *testing.T) {
	both := graph(3, join(0, 1, 1, 1), cut(0, 1, 1, 2), join(1, 2, 1, 3)) // it contradicts itself: its nodes are joined and kept apart
	for i, x := range []struct {
		g    api.Graph
		a, b int
		want []int
		err  api.Errno
	}{
		{example(), 0, 4, []int{1, 2, 3}, api.OK}, {example(), 4, 0, []int{1, 2, 3}, api.OK}, {example(), 3, 4, []int{3}, api.OK}, {example(), 1, 1, nil, api.OK}, {example(), 2, 3, []int{1}, api.OK}, {example(), 0, 2, []int{1, 2}, api.OK},
		{graph(2), 0, 1, nil, api.ErrNone}, {graph(2), 1, 1, nil, api.OK}, {graph(3, join(0, 1, 1, 0)), 1, 2, nil, api.ErrNone}, {graph(3, cut(0, 1, 1, 0), cut(1, 2, 1, 0)), 0, 2, nil, api.ErrNone},
		{graph(2, join(0, 1, 1, 4095), join(0, 1, 2, 4095)), 0, 1, []int{4095}, api.OK}, {graph(2, join(0, 1, 1, 0), join(0, 1, 1, 4095)), 0, 1, nil, api.OK}, {graph(2, cut(0, 1, 1, 0), cut(0, 1, 1, 4095)), 0, 1, nil, api.OK},
		{both, 0, 1, nil, api.OK}, {both, 0, 2, []int{3}, api.OK}, {both, 2, 2, nil, api.OK},
		{graph(4, join(0, 1, 1, 9), join(1, 3, 1, 5), join(0, 2, 1, 9), join(2, 3, 1, 6)), 0, 3, []int{9}, api.OK},
		{graph(4, join(0, 1, 1, 5), join(1, 3, 1, 9), join(0, 2, 1, 9), join(2, 3, 1, 5)), 0, 3, []int{5, 9}, api.OK},
		{graph(4, cut(0, 1, 1, 9), join(1, 3, 1, 5), join(0, 2, 1, 6), cut(2, 3, 1, 9)), 0, 3, []int{9}, api.OK},
		{graph(3, join(0, 1, 1, 7), cut(0, 2, 1, 7), join(1, 2, 1, 8)), 0, 1, []int{7}, api.OK}, // joined by one source alone, and kept apart by both
	} {
		if l, err := ties.Rests(x.g, x.a, x.b); !slices.Equal(l, x.want) || err != x.err {
			t.Error(i, l, err)
		}
	}
}

// P4.7 and P4.15: without a source that is named two nodes are neither joined nor kept apart, without any other one they are.
func TestRests(t *testing.T) {
	named, others := 0, 0
	for _, g := range graphs(36, 300, 60) {
		if len(g.Ties) == 512 {
			continue // too many sources to go through here; TestRestsOfTheGreatest has it
		}
		l := lengthsOf(g)
		less := map[int]*lengths{}
		for source := range 101 {
			without := picked(g, func(_ int, x api.Tie) bool { return x.Source != source })
			if source < 7 || len(without.Ties) < len(g.Ties) {
				less[source] = lengthsOf(without)
			}
		}
		for a := range g.Nodes {
			for b := range g.Nodes {
				got, err := ties.Rests(g, a, b)
				if !l.told(a, b) {
					if len(got) > 0 || err != api.ErrNone {
						t.Fatal(g, a, b, got, err)
					}
					continue
				}
				if err != api.OK || !slices.IsSorted(got) || len(slices.Compact(slices.Clone(got))) != len(got) {
					t.Fatal(g, a, b, got, err)
				}
				for source, without := range less {
					if slices.Contains(got, source) == without.told(a, b) {
						t.Fatal(g, a, b, source, got)
					}
				}
				for _, source := range got {
					if less[source] == nil {
						t.Fatal(g, a, b, source, got)
					}
				}
				named += len(got)
				others += len(less) - len(got)
			}
		}
	}
	if named < 1000 || others < 1000 {
		t.Error(named, others)
	}
}

// P4.7 and P4.15: the greatest graph, with as many sources as ties, in which nothing rests on one; and with one source alone, on which all rests.
func TestRestsOfTheGreatest(t *testing.T) {
	g, one := full(), full()
	for i := range g.Ties {
		g.Ties[i].Source = 8 * i
		one.Ties[i].Source = 4095
	}
	for n := 1; n < g.Nodes; n++ {
		if l, err := ties.Rests(g, 0, n); len(l) > 0 || err != api.OK {
			t.Error(n, l, err)
		}
		if l, err := ties.Rests(one, 0, n); !slices.Equal(l, []int{4095}) || err != api.OK {
			t.Error(n, l, err)
		}
	}
}

// P4.15: without a source there is none of its ties, and nothing is joined, or kept apart, that was not.
func TestWithoutSource(t *testing.T) {
	x := noise(37)
	for range 300 {
		g := aGraph(&x, 6, 9)
		for source := range 6 {
			h, err := ties.Without(g, source)
			if err != api.OK || slices.ContainsFunc(h.Ties, func(x api.Tie) bool { return x.Source == source }) {
				t.Fatal(g, source, h, err)
			}
			for a := range g.Nodes {
				for b := range g.Nodes {
					if same(t, h, a, b) && !same(t, g, a, b) || apart(t, h, a, b) && !apart(t, g, a, b) {
						t.Fatal(g, source, a, b)
					}
				}
			}
		}
	}
}
