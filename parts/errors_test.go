package parts_test

import (
	"math"
	"slices"
	"testing"

	"bonehouse/api"
	"bonehouse/parts"
)

// question is a call of a function with a graph: whether all of its results are zero values, and its error. What a function does not ask for it leaves out.
type question struct {
	most, node, l, none bool // whether it asks for a number of people, for nodes, for a partition; whether some partition must be allowed
	ask                 func(g api.Graph, most, a, b int, l []int) (bool, api.Errno)
}

// questions returns all functions with a graph.
func questions() []question {
	return []question{
		{true, false, true, false, func(g api.Graph, most, _, _ int, l []int) (bool, api.Errno) {
			is, err := parts.Allowed(g, most, l)
			return !is, err
		}},
		{true, false, false, false, func(g api.Graph, most, _, _ int, _ []int) (bool, api.Errno) {
			all, err := parts.All(g, most)
			none := true
			for range all {
				none = false
			}
			return none, err
		}},
		{true, false, false, false, func(g api.Graph, most, _, _ int, _ []int) (bool, api.Errno) {
			n, err := parts.Count(g, most)
			return n == 0, err
		}},
		{false, false, false, false, func(g api.Graph, _, _, _ int, _ []int) (bool, api.Errno) {
			l, err := parts.By(g)
			return len(l) == 0, err
		}},
		{true, false, true, false, func(g api.Graph, most, _, _ int, l []int) (bool, api.Errno) {
			next, is, err := parts.Next(g, most, l)
			return len(next) == 0 && !is, err
		}},
		{true, true, false, true, func(g api.Graph, most, a, b int, _ []int) (bool, api.Errno) {
			n, err := parts.Relation(g, most, a, b)
			return n == 0, err
		}},
		{true, true, false, false, func(g api.Graph, most, a, b int, _ []int) (bool, api.Errno) {
			l, is, err := parts.Together(g, most, a, b)
			return len(l) == 0 && !is, err
		}},
		{true, true, false, false, func(g api.Graph, most, a, b int, _ []int) (bool, api.Errno) {
			l, is, err := parts.Separate(g, most, a, b)
			return len(l) == 0 && !is, err
		}},
		{true, true, false, false, func(g api.Graph, most, a, b int, _ []int) (bool, api.Errno) {
			l, is, err := parts.Forced(g, most, a, b, false)
			return len(l) == 0 && !is, err
		}},
		{true, true, false, false, func(g api.Graph, most, a, b int, _ []int) (bool, api.Errno) {
			return true, unproved(parts.CheckForced(g, most, a, b, true, nil))
		}},
		{true, false, false, true, func(g api.Graph, most, _, _ int, _ []int) (bool, api.Errno) {
			same, never, err := parts.Sure(g, most)
			return len(same) == 0 && len(never) == 0, err
		}},
		{true, false, false, true, func(g api.Graph, most, _, _ int, _ []int) (bool, api.Errno) {
			h, err := parts.Closed(g, most)
			return sameGraph(h, api.Graph{}), err
		}},
		{true, true, false, true, func(g api.Graph, most, a, b int, _ []int) (bool, api.Errno) {
			span, err := parts.Sizes(g, most, max(a, b))
			if min(a, b) < 0 {
				span, err = parts.Sizes(g, most, min(a, b))
			}
			return span == api.Span{}, err
		}},
	}
}

// unproved takes it for no error of the graph that a list proves nothing.
func unproved(err api.Errno) api.Errno {
	if err == api.ErrProof {
		return api.OK
	}
	return err
}

// wrongGraphs returns graphs with their errors, also such as are wrong in several ways.
func wrongGraphs() map[api.Errno][]api.Graph {
	clash := with(ring(5), join(0, 2), join(2, 1))
	apart := graph(11) // of 11 groups
	for n := range 10 {
		apart = with(apart, cut(n, n+1))
	}
	lost := graph(12, join(0, 1), cut(1, 0)) // of 11 groups, which contradicts itself
	many := with(filled(full(2)), cut(0, 1))
	return map[api.Errno][]api.Graph{
		api.ErrGraph: {{}, graph(-1), graph(33), graph(math.MinInt), graph(math.MaxInt), many, with(example(), api.Tie{}), with(example(), cut(3, 3)), with(example(), cut(3, 4)), with(clash, cut(0, -1)), with(apart, join(0, 11)), with(lost, join(0, 12)), graph(33, join(0, 1), cut(0, 1))},
		api.ErrClash: {clash, lost, graph(2, join(0, 1), cut(0, 1)), graph(32, join(3, 31), cut(31, 3)), filled(with(clash, cut(0, 1)))},
		api.ErrLimit: {graph(11), apart, graph(32), graph(12, join(3, 11)), filled(apart)},
	}
}

// P6.3 to P6.6: the errors of graphs count ahead of those of all other arguments.
func TestGraphErrors(t *testing.T) {
	for want, l := range wrongGraphs() {
		for k, g := range l {
			for i, x := range questions() {
				for _, most := range []int{-1, 0, 1, 33} {
					for _, node := range []int{-1, 0, 32} {
						if zero, err := x.ask(g, most, node, node, []int{7}); !zero || err != want {
							t.Error(want, k, i, most, node, zero, err)
						}
					}
				}
			}
		}
	}
	// 10 groups are not too many, of however many nodes.
	x := noise(26)
	for _, g := range []api.Graph{graph(10), with(graph(11), join(3, 10)), wide(&x, 10, 50)} {
		for i, q := range questions() {
			if _, err := q.ask(g, 0, 0, 1, make([]int, g.Nodes)); err != api.OK {
				t.Error(i, g, err)
			}
		}
	}
}

// P6.3 to P6.6: numbers of people and nodes, which count ahead of partitions, and ahead of that none is allowed.
func TestArgumentErrors(t *testing.T) {
	g := example()
	for i, x := range questions() {
		for _, most := range []int{-1, 33, -32, math.MinInt, math.MaxInt} {
			for _, node := range []int{-1, 0, 4} {
				zero, err := x.ask(g, most, node, 0, []int{0})
				if x.most && (!zero || err != api.ErrArg) || !x.most && err != api.OK {
					t.Error(i, most, node, zero, err)
				}
			}
		}
		for _, node := range []int{-1, 4, 5, 31, 32, math.MinInt, math.MaxInt} {
			for _, most := range []int{0, 1, 32} { // one person is too few
				for _, pair := range [][2]int{{node, 0}, {0, node}, {node, node}} {
					zero, err := x.ask(g, most, pair[0], pair[1], []int{0, 1, 2, 3})
					if x.node && (!zero || err != api.ErrArg) || !x.node && err == api.ErrArg {
						t.Error(i, most, pair, zero, err)
					}
				}
			}
		}
	}
}

// P6.3 to P6.6: partitions that are none of the nodes, and that none is allowed.
func TestFurtherErrors(t *testing.T) {
	g := example()
	for i, x := range questions() {
		for _, l := range [][]int{nil, {}, {0}, {0, 0, 1}, {0, 0, 1, 0, 0}, {1, 0, 0, 0}, {0, 0, 2, 0}, {0, 0, 1, -1}, {0, 0, 1, math.MaxInt}, {0, 0, math.MinInt, 0}, make([]int, 32), make([]int, 33)} {
			for _, most := range []int{0, 1, 3} {
				kept := slices.Clone(l)
				zero, err := x.ask(g, most, 0, 3, l)
				if x.l && (!zero || err != api.ErrParts) || !x.l && err == api.ErrParts || !slices.Equal(l, kept) {
					t.Error(i, l, most, zero, err)
				}
			}
		}
		for _, pair := range [][2]int{{0, 3}, {2, 2}, {0, 1}, {1, 2}} {
			want := api.OK
			if x.none {
				want = api.ErrNone
			}
			if zero, err := x.ask(g, 1, pair[0], pair[1], []int{0, 0, 1, 0}); err != want || err != api.OK && !zero {
				t.Error(i, pair, zero, err)
			}
			if _, err := x.ask(g, 2, pair[0], pair[1], []int{0, 0, 1, 0}); err != api.OK {
				t.Error(i, pair, err)
			}
		}
	}
}
