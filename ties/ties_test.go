package ties_test

import (
	"math"
	"slices"
	"testing"

	"bonehouse/api"
	"bonehouse/ties"
)

// badTies returns ties that are not valid for 5 nodes, each for one reason.
func badTies() []api.Tie {
	var l []api.Tie
	for _, n := range []int{-1, 5, 32, math.MinInt, math.MaxInt} {
		l = append(l, join(n, 1, 1, 0), join(1, n, 1, 0), cut(n, 1, 1, 0), cut(1, n, 1, 0))
	}
	for n := range 5 {
		l = append(l, join(n, n, 1, 0), cut(n, n, 1, 0))
	}
	for _, kind := range []int{0, 3, -1, math.MinInt, math.MaxInt} {
		l = append(l, api.Tie{B: 1, Kind: kind, Strength: 1})
	}
	for _, strength := range []int{0, 101, -1, math.MinInt, math.MaxInt} {
		l = append(l, join(0, 1, strength, 0), cut(0, 1, strength, 0))
	}
	for _, source := range []int{-1, 4096, math.MinInt, math.MaxInt} {
		l = append(l, join(0, 1, 1, source), cut(0, 1, 1, source))
	}
	return append(l, api.Tie{})
}

// goodTies returns ties that are valid for 5 nodes, at the ends of the ranges.
func goodTies() []api.Tie {
	return []api.Tie{join(0, 4, 1, 0), join(4, 0, 100, 4095), cut(0, 4, 100, 0), cut(4, 0, 1, 4095), cut(3, 2, 1, 0)}
}

// badGraphs returns graphs that are not valid.
func badGraphs() []api.Graph {
	var l []api.Graph
	for _, nodes := range []int{0, -1, 33, math.MinInt, math.MaxInt} {
		l = append(l, graph(nodes), graph(nodes, join(0, 1, 1, 0)))
	}
	for _, x := range badTies() {
		l = append(l, graph(5, x), with(example(), x), graph(5, append([]api.Tie{x}, example().Ties...)...))
	}
	many := graph(2)
	for range 513 {
		many.Ties = append(many.Ties, cut(0, 1, 1, 0))
	}
	return append(l, many, graph(1, join(0, 1, 1, 0)), graph(2, join(0, 2, 1, 0)))
}

// P4.1: which graphs are valid.
func TestCheck(t *testing.T) {
	for i, g := range badGraphs() {
		if err := ties.Check(g); err != api.ErrGraph {
			t.Error(i, g, err)
		}
	}
	l := append(graphs(1, 50, 20), with(example(), goodTies()...), graph(2, make([]api.Tie, 0)...))
	for n := range 32 {
		l = append(l, graph(n+1))
	}
	for i, g := range l {
		if err := ties.Check(g); err != api.OK {
			t.Error(i, g, err)
		}
	}
}

// P4.1: a tie more.
func TestAdd(t *testing.T) {
	g := example()
	for i, x := range goodTies() {
		h, err := ties.Add(g, x)
		if !sameGraph(h, with(g, x)) || err != api.OK {
			t.Error(i, h, err)
		}
	}
	// A tie that is there already is one more.
	if h, err := ties.Add(g, g.Ties[0]); !sameGraph(h, with(g, g.Ties[0])) || err != api.OK {
		t.Error(h, err)
	}
	if h, err := ties.Add(graph(2), cut(1, 0, 3, 4)); !sameGraph(h, graph(2, cut(1, 0, 3, 4))) || err != api.OK {
		t.Error(h, err)
	}
	for i, x := range badTies() {
		if h, err := ties.Add(g, x); !sameGraph(h, api.Graph{}) || err != api.ErrArg {
			t.Error(i, h, err)
		}
	}
	if _, err := ties.Add(graph(1), join(0, 1, 1, 0)); err != api.ErrArg {
		t.Error(err)
	}
	most := full()
	last := most.Ties[511]
	before := graph(32, most.Ties[:511]...)
	if h, err := ties.Add(before, last); !sameGraph(h, most) || err != api.OK {
		t.Error(len(h.Ties), err)
	}
	if h, err := ties.Add(most, last); !sameGraph(h, api.Graph{}) || err != api.ErrLimit {
		t.Error(h, err)
	}
	// What is no tie counts ahead of how many there are, and the graph ahead of both.
	if _, err := ties.Add(most, api.Tie{}); err != api.ErrArg {
		t.Error(err)
	}
	if _, err := ties.Add(with(most, last), api.Tie{}); err != api.ErrGraph {
		t.Error(err)
	}
}

// P4.1: the ties that are strong enough.
func TestStrong(t *testing.T) {
	for _, g := range append(graphs(2, 100, 20), with(graph(2), cut(0, 1, 100, 0), join(0, 1, 1, 0))) {
		for strength := 1; strength <= 101; strength++ {
			want := picked(g, func(_ int, x api.Tie) bool { return x.Strength >= strength })
			if h, err := ties.Strong(g, strength); !sameGraph(h, want) || err != api.OK {
				t.Fatal(g, strength, h, err)
			}
		}
	}
	for _, strength := range []int{0, 102, -1, math.MinInt, math.MaxInt} {
		if h, err := ties.Strong(example(), strength); !sameGraph(h, api.Graph{}) || err != api.ErrArg {
			t.Error(strength, h, err)
		}
		if _, err := ties.Strong(graph(0), strength); err != api.ErrGraph {
			t.Error(strength, err)
		}
	}
}

// P4.1: the ties of other sources.
func TestWithout(t *testing.T) {
	for _, g := range graphs(3, 100, 20) {
		for _, source := range []int{0, 1, 2, 3, 4, 5, 50, 4095} {
			want := picked(g, func(_ int, x api.Tie) bool { return x.Source != source })
			if h, err := ties.Without(g, source); !sameGraph(h, want) || err != api.OK {
				t.Fatal(g, source, h, err)
			}
		}
	}
	if h, err := ties.Without(graph(5, goodTies()...), 4095); len(h.Ties) != 3 || err != api.OK {
		t.Error(h, err)
	}
	for _, source := range []int{-1, 4096, math.MinInt, math.MaxInt} {
		if h, err := ties.Without(example(), source); !sameGraph(h, api.Graph{}) || err != api.ErrArg {
			t.Error(source, h, err)
		}
		if _, err := ties.Without(graph(0), source); err != api.ErrGraph {
			t.Error(source, err)
		}
	}
}

// P4.1: the ties of two graphs.
func TestMerge(t *testing.T) {
	a, b := join(0, 1, 5, 6), cut(1, 2, 7, 8)
	for i, x := range []struct{ g, h, want api.Graph }{
		{graph(3), graph(3), graph(3)},
		{graph(3, a), graph(3, b), graph(3, a, b)},
		{graph(3, b), graph(3, a), graph(3, b, a)},
		{graph(3, a, a), graph(3, b, a, b), graph(3, a, a, b, b)}, // each tie of the latter is held against those of the former alone
		{graph(3), graph(3, a, a), graph(3, a, a)},
		{graph(3, a), graph(3, join(1, 0, 5, 6), join(0, 1, 4, 6), join(0, 1, 5, 7), cut(0, 1, 5, 6), join(0, 2, 5, 6), a), graph(3, a, join(1, 0, 5, 6), join(0, 1, 4, 6), join(0, 1, 5, 7), cut(0, 1, 5, 6), join(0, 2, 5, 6))},
		{example(), wrong(), wrong()},
		{wrong(), example(), wrong()},
		{full(), full(), full()},
	} {
		if h, err := ties.Merge(x.g, x.h); !sameGraph(h, x.want) || err != api.OK {
			t.Error(i, h, err)
		}
	}
	most := full()
	extra := cut(0, 2, 1, 0) // it would contradict the others
	for i, x := range []struct {
		g, h api.Graph
		err  api.Errno
	}{
		{most, graph(32, extra), api.ErrLimit}, {graph(32, extra), most, api.ErrLimit},
		{graph(32, most.Ties[1:]...), graph(32, extra), api.OK}, {graph(32, most.Ties[1:]...), most, api.OK},
		{example(), graph(4), api.ErrArg}, {graph(6), example(), api.ErrArg}, {most, graph(31), api.ErrArg},
		{graph(0), example(), api.ErrGraph}, {example(), graph(0), api.ErrGraph}, {graph(33), graph(33), api.ErrGraph},
		{example(), with(example(), api.Tie{}), api.ErrGraph}, {graph(4), with(example(), api.Tie{}), api.ErrGraph}, {with(most, extra), graph(3), api.ErrGraph},
	} {
		h, err := ties.Merge(x.g, x.h)
		if err != x.err || err != api.OK && !sameGraph(h, api.Graph{}) || err == api.OK && len(h.Ties) != 512 {
			t.Error(i, len(h.Ties), err)
		}
	}
}

// asked is a question of two nodes: whether all of its results are zero values, and its error.
type asked func(g api.Graph, a, b int) (bool, api.Errno)

// pairs returns the questions of two nodes.
func pairs() []asked {
	return []asked{
		func(g api.Graph, a, b int) (bool, api.Errno) {
			is, err := ties.Same(g, a, b)
			return !is, err
		},
		func(g api.Graph, a, b int) (bool, api.Errno) {
			is, err := ties.Apart(g, a, b)
			return !is, err
		},
		func(g api.Graph, a, b int) (bool, api.Errno) {
			l, is, err := ties.Chain(g, a, b)
			return len(l) == 0 && !is, err
		},
		func(g api.Graph, a, b int) (bool, api.Errno) {
			l, is, err := ties.Why(g, a, b)
			return len(l) == 0 && !is, err
		},
		func(g api.Graph, a, b int) (bool, api.Errno) {
			n, is, err := ties.Widest(g, a, b)
			return n == 0 && !is, err
		},
		func(g api.Graph, a, b int) (bool, api.Errno) {
			l, err := ties.Rests(g, a, b)
			return len(l) == 0, err
		},
		func(g api.Graph, a, b int) (bool, api.Errno) { return true, ties.CheckChain(g, a, b, []int{-7}) },
		func(g api.Graph, a, b int) (bool, api.Errno) { return true, ties.CheckWhy(g, a, b, []int{-7}) },
	}
}

// wholes returns the questions of a graph, whatever the nodes.
func wholes() []asked {
	return []asked{
		func(g api.Graph, a, b int) (bool, api.Errno) {
			l, err := ties.Groups(g)
			return len(l) == 0, err
		},
		func(g api.Graph, a, b int) (bool, api.Errno) {
			l, is, err := ties.Clash(g)
			return len(l) == 0 && !is, err
		},
		func(g api.Graph, a, b int) (bool, api.Errno) { return true, ties.CheckClash(g, []int{-7}) },
		func(g api.Graph, a, b int) (bool, api.Errno) {
			l, err := ties.Bridges(g)
			return len(l) == 0, err
		},
		func(g api.Graph, a, b int) (bool, api.Errno) {
			n, err := ties.Soundest(g)
			return n == 0, err
		},
		func(g api.Graph, a, b int) (bool, api.Errno) {
			h, l, err := ties.Quotient(g)
			return sameGraph(h, api.Graph{}) && len(l) == 0, err
		},
		func(g api.Graph, a, b int) (bool, api.Errno) {
			h, err := ties.Strong(g, 1)
			return sameGraph(h, api.Graph{}), err
		},
		func(g api.Graph, a, b int) (bool, api.Errno) {
			h, err := ties.Without(g, 1)
			return sameGraph(h, api.Graph{}), err
		},
		func(g api.Graph, a, b int) (bool, api.Errno) {
			h, err := ties.Add(g, join(0, 1, 1, 1))
			return sameGraph(h, api.Graph{}), err
		},
		func(g api.Graph, a, b int) (bool, api.Errno) {
			h, err := ties.Merge(g, g)
			return sameGraph(h, api.Graph{}), err
		},
	}
}

// P4.1 to P4.7: a graph that is not valid counts ahead of nodes that are none, and these ahead of what is asked.
func TestErrors(t *testing.T) {
	for i, f := range slices.Concat(pairs(), wholes()) {
		for k, g := range badGraphs() {
			for _, a := range []int{0, -1, 99} {
				if zero, err := f(g, a, 0); !zero || err != api.ErrGraph {
					t.Error(i, k, a, zero, err)
				}
			}
		}
	}
	for i, f := range pairs() {
		for _, g := range []api.Graph{example(), wrong(), graph(5), full(), graph(1)} {
			for _, n := range []int{-1, g.Nodes, g.Nodes + 1, math.MinInt, math.MaxInt} {
				for _, x := range [][2]int{{n, 0}, {0, n}, {n, n}} {
					if zero, err := f(g, x[0], x[1]); !zero || err != api.ErrArg {
						t.Error(i, x, zero, err)
					}
				}
			}
			if _, err := f(g, g.Nodes-1, 0); err == api.ErrArg || err == api.ErrGraph {
				t.Error(i, err)
			}
		}
	}
}

// R2 of P4.1 and P4.6: no graph is changed, nor has a result memory of an argument.
func TestMemory(t *testing.T) {
	for _, g := range graphs(4, 50, 10) {
		// There is room behind the ties, which a longer list could be written to.
		room := append(slices.Clone(g.Ties), api.Tie{A: 77}, api.Tie{A: 78})
		given := api.Graph{Nodes: g.Nodes, Ties: room[:len(g.Ties)]}
		kept := slices.Clone(room)
		// All is asked of it, also with the nodes that are kept apart.
		for _, f := range slices.Concat(pairs(), wholes()) {
			f(given, 0, g.Nodes-1)
		}
		if !slices.Equal(room, kept) {
			t.Fatal(g, room)
		}
		var made []api.Graph
		if h, err := ties.Add(given, join(0, g.Nodes-1, 1, 1)); err == api.OK {
			made = append(made, h)
		}
		strong, _ := ties.Strong(given, 1)
		without, _ := ties.Without(given, 4095)
		merged, _ := ties.Merge(given, given)
		empty, _ := ties.Merge(graph(g.Nodes), given)
		alone, _ := ties.Merge(given, graph(g.Nodes))
		quotient, _, _ := ties.Quotient(given)
		made = append(made, strong, without, merged, empty, alone, quotient)
		before := make([]api.Graph, len(made))
		for i, h := range made {
			before[i] = clone(h)
		}
		clear(room)
		for i, h := range made {
			if !sameGraph(h, before[i]) {
				t.Error(i, h)
			}
			clear(h.Ties)
			for k, other := range made[i+1:] {
				if !sameGraph(other, before[i+1+k]) {
					t.Error(i, k, other)
				}
			}
		}
	}
}
