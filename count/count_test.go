package count_test

import (
	"math"
	"slices"
	"testing"

	"bonehouse/api"
	"bonehouse/count"
)

// wrongNodes returns numbers that are no nodes, whatever the graph.
func wrongNodes() []int { return []int{-1, 32, 33, math.MinInt, math.MaxInt} }

// P5.1: the chapter's example, and lists that are no cliques.
func TestCliqueExamples(t *testing.T) {
	for i, x := range []struct {
		g   api.Graph
		l   []int
		err api.Errno
	}{
		{ring(5), nil, api.OK}, {ring(5), []int{}, api.OK}, {ring(5), []int{4}, api.OK}, {ring(5), []int{0, 1}, api.OK}, {ring(5), []int{0, 4}, api.OK},
		{ring(5), []int{0, 2}, api.ErrProof}, {ring(5), []int{0, 1, 2}, api.ErrProof}, {ring(5), []int{0, 1, 2, 3, 4}, api.ErrProof}, {ring(5), []int{0, 3, 4}, api.ErrProof},
		{ring(5), []int{1, 0}, api.ErrArg}, {ring(5), []int{0, 0}, api.ErrArg}, {ring(5), []int{0, 1, 1}, api.ErrArg}, {ring(5), []int{0, 5}, api.ErrArg}, {ring(5), []int{5}, api.ErrArg}, {ring(5), []int{-1, 0}, api.ErrArg},
		{ring(5), []int{0, 2, 1}, api.ErrArg}, {ring(5), []int{0, 2, 5}, api.ErrArg}, {ring(5), []int{0, 1, 2, 3, 4, 5}, api.ErrArg}, // what is no list of nodes counts ahead of what is no clique
		{joined(), []int{0, 1}, api.ErrProof}, {joined(), []int{0, 3}, api.OK}, {joined(), []int{1, 2}, api.OK}, {joined(), []int{0, 2, 3}, api.ErrProof},
		{full(16), []int{0, 3, 15}, api.OK}, {graph(1), []int{0}, api.OK}, {graph(1), []int{0, 1}, api.ErrArg},
	} {
		kept := slices.Clone(x.l)
		if err := count.CheckClique(x.g, x.l); err != x.err || !slices.Equal(x.l, kept) {
			t.Error(i, err)
		}
	}
	for _, n := range wrongNodes() {
		for _, l := range [][]int{{n}, {0, n}, {n, 4}} {
			if err := count.CheckClique(ring(5), l); err != api.ErrArg {
				t.Error(l, err)
			}
		}
	}
}

// P5.1: what Clique returns, and which lists CheckClique accepts, held against all lists of nodes.
func TestCliques(t *testing.T) {
	seen := map[int]int{} // how many graphs had so great a clique
	for _, g := range small(1, 300, 8) {
		r := relatedIn(g)
		most := 0
		for s := range 1 << g.Nodes {
			var l []int
			for n := range g.Nodes {
				if s>>n&1 == 1 {
					l = append(l, n)
				}
			}
			want := api.ErrProof
			if r.isClique(l) {
				want = api.OK
				most = max(most, len(l))
			}
			if err := count.CheckClique(g, l); err != want {
				t.Fatal(g, l, err)
			}
		}
		if l := clique(t, g); len(l) != most || !r.isClique(l) || !slices.IsSorted(l) || count.CheckClique(g, l) != api.OK {
			t.Fatal(g, l, most)
		}
		seen[most]++
	}
	for size := 1; size <= 5; size++ {
		if seen[size] < 5 {
			t.Error(size, seen)
		}
	}
}

// widest returns graphs of many groups, up to 16, of up to 32 nodes.
func widest(seed noise) []api.Graph {
	var l []api.Graph
	for percent := 5; percent <= 95; percent += 6 {
		l = append(l, wide(&seed, 16, percent), wide(&seed, seed.from(8, 15), percent))
	}
	return append(l, hard()...)
}

// P5.1, P5.2, P5.3, P5.8 and P5.9: graphs of up to 16 groups, held against all sets of groups.
func TestWide(t *testing.T) {
	seen := map[bool]int{}
	for i, g := range widest(2) {
		fewest, greatest := counted(g)
		if n := least(t, g); n != fewest {
			t.Error(i, g, n, fewest)
		}
		r := relatedIn(g)
		if l := clique(t, g); len(l) != greatest || !r.isClique(l) || !slices.IsSorted(l) {
			t.Error(i, g, l, greatest)
		}
		if l := parted(t, g); people(l) != fewest || !r.isAllowed(l) || count.CheckParted(g, l) != api.OK {
			t.Error(i, g, l, fewest)
		}
		sharp := ask(t, count.Sharp, g)
		if sharp != (fewest == greatest) {
			t.Error(i, g, sharp)
		}
		seen[sharp]++
		for number := range 33 {
			is, err := count.Fits(g, number)
			if _, more := proved(t, g, number); is != (number >= fewest) || more == is || err != api.OK {
				t.Error(i, g, number, is, more, err)
			}
		}
	}
	if min(seen[false], seen[true]) < 5 {
		t.Error(seen)
	}
}

// asked is a question of a graph: whether all of its results are zero values, and its error. With right being false the other arguments are wrong.
type asked func(g api.Graph, right bool) (bool, api.Errno)

// pick returns an argument that is right, or one that is not.
func pick[A any](right bool, a, wrong A) A {
	if right {
		return a
	}
	return wrong
}

// wholes returns the questions without other arguments than a graph.
func wholes() []asked {
	return []asked{
		func(g api.Graph, _ bool) (bool, api.Errno) {
			l, err := count.Clique(g)
			return len(l) == 0, err
		},
		func(g api.Graph, _ bool) (bool, api.Errno) {
			l, err := count.Parted(g)
			return len(l) == 0, err
		},
		func(g api.Graph, _ bool) (bool, api.Errno) {
			n, err := count.Least(g)
			return n == 0, err
		},
		func(g api.Graph, _ bool) (bool, api.Errno) {
			is, err := count.Sharp(g)
			return !is, err
		},
		func(g api.Graph, right bool) (bool, api.Errno) {
			return true, pick(right, api.OK, count.CheckParted(g, []int{-7})) // its ErrParts is no ErrArg
		},
	}
}

// others returns the questions with other arguments, for the graph of the examples.
func others() []asked {
	return []asked{
		func(g api.Graph, right bool) (bool, api.Errno) {
			return true, count.CheckClique(g, pick(right, []int{0, 1}, []int{1, 0}))
		},
		func(g api.Graph, right bool) (bool, api.Errno) {
			is, err := count.Fits(g, pick(right, 3, -1))
			return !is, err
		},
		func(g api.Graph, right bool) (bool, api.Errno) {
			l, is, err := count.Proof(g, pick(right, 2, 33))
			return len(l) == 0 && !is, err
		},
		func(g api.Graph, right bool) (bool, api.Errno) {
			return true, count.CheckProof(g, pick(right, 2, 33), pick(right, example(), make([]api.Step, 4097)))
		},
		func(g api.Graph, right bool) (bool, api.Errno) {
			l, err := count.Greedy(g, pick(right, []int{0, 1, 2, 3, 4}, []int{0, 1, 2, 3, 3}))
			return len(l) == 0, err
		},
	}
}

// wrongGraphs returns graphs with their errors, also such as are wrong in several ways.
func wrongGraphs() map[api.Errno][]api.Graph {
	clash := with(ring(5), join(0, 2), join(2, 1))
	many := graph(2)
	for range 513 {
		many = with(many, cut(0, 1))
	}
	apart := graph(17) // of 17 groups, also if it contradicts itself
	for n := range 16 {
		apart = with(apart, cut(n, n+1))
	}
	lost := graph(18, join(0, 1), cut(1, 0))
	return map[api.Errno][]api.Graph{
		api.ErrGraph: {{}, graph(-1), graph(33), graph(math.MinInt), graph(math.MaxInt), many, with(ring(5), api.Tie{}), with(ring(5), cut(3, 3)), with(ring(5), cut(3, 5)), with(clash, cut(0, -1)), with(apart, join(0, 17)), with(lost, join(0, 18)), graph(33, join(0, 1), cut(0, 1))},
		api.ErrClash: {clash, lost, graph(2, join(0, 1), cut(0, 1)), graph(3, join(0, 1), join(1, 2), cut(2, 0)), graph(32, join(3, 31), cut(31, 3))},
		api.ErrLimit: {graph(17), apart, graph(32), graph(18, join(3, 17))},
	}
}

// P5.1 to P5.5: the errors of graphs count ahead of those of all other arguments; with an error there is no other result.
func TestErrors(t *testing.T) {
	for want, l := range wrongGraphs() {
		for k, g := range l {
			for i, f := range slices.Concat(wholes(), others()) {
				if zero, err := f(g, false); !zero || err != want {
					t.Error(want, k, i, zero, err)
				}
			}
		}
	}
	for i, f := range others() {
		if zero, err := f(ring(5), false); !zero || err != api.ErrArg {
			t.Error(i, zero, err)
		}
	}
	for i, f := range slices.Concat(wholes(), others()) {
		if _, err := f(ring(5), true); err != api.OK {
			t.Error(i, err)
		}
		// 16 groups are not too many.
		if _, err := f(graph(17, join(16, 3)), true); err == api.ErrLimit || err == api.ErrGraph || err == api.ErrClash {
			t.Error(i, err)
		}
	}
}

// R2 of P5.1 to P5.5: no argument is changed, and results are memory of their own.
func TestMemory(t *testing.T) {
	for _, g := range append(widest(3), small(3, 20, 6)...) {
		ties := slices.Clone(g.Ties)
		order := make([]int, g.Nodes)
		for i := range order {
			order[i] = g.Nodes - 1 - i
		}
		kept := slices.Clone(order)
		made := func() [][]int {
			greedy, _ := count.Greedy(g, order)
			l := [][]int{clique(t, g), parted(t, g), greedy}
			steps, _ := proved(t, g, least(t, g)-1)
			for _, s := range steps {
				l = append(l, s.Clique)
			}
			return l
		}
		first, again := made(), made()
		before := make([][]int, len(again))
		for i, l := range again {
			before[i] = slices.Clone(l)
		}
		for _, l := range first {
			clear(l)
			clear(l[len(l):cap(l)])
		}
		for i, l := range again {
			if !slices.Equal(l, before[i]) {
				t.Fatal(g, i, l)
			}
			clear(l)
			clear(l[len(l):cap(l)])
			for k, other := range again[i+1:] {
				if !slices.Equal(other, before[i+1+k]) {
					t.Fatal(g, i, k, other)
				}
			}
		}
		if !slices.Equal(g.Ties, ties) || !slices.Equal(order, kept) {
			t.Fatal(g, order)
		}
	}
}
