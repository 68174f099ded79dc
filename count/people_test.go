package count_test

import (
	"math"
	"slices"
	"testing"

	"bonehouse/api"
	"bonehouse/count"
	"bonehouse/ties"
)

// P5.2: the chapter's example, and lists that are no allowed partitions.
func TestPartedExamples(t *testing.T) {
	for i, x := range []struct {
		g   api.Graph
		l   []int
		err api.Errno
	}{
		{ring(5), []int{0, 1, 0, 1, 2}, api.OK}, {ring(5), []int{0, 1, 0, 1, 0}, api.ErrParts}, {ring(5), []int{0, 1, 2, 3, 4}, api.OK}, {ring(5), []int{0, 1, 2, 1, 2}, api.OK}, {ring(5), []int{0, 1, 2, 0, 3}, api.OK},
		{ring(5), []int{0, 0, 1, 2, 3}, api.ErrParts}, {ring(5), []int{0, 0, 0, 0, 0}, api.ErrParts}, {ring(5), []int{1, 0, 1, 0, 2}, api.ErrParts}, {ring(5), []int{0, 2, 0, 2, 1}, api.ErrParts}, {ring(5), []int{0, 1, 0, 1, 3}, api.ErrParts}, {ring(5), []int{1, 2, 1, 2, 3}, api.ErrParts}, {ring(5), []int{0, 1, 0, 1, -1}, api.ErrParts},
		{ring(5), nil, api.ErrParts}, {ring(5), []int{}, api.ErrParts}, {ring(5), []int{0, 1, 0, 1}, api.ErrParts}, {ring(5), []int{0, 1, 0, 1, 2, 0}, api.ErrParts}, {ring(5), []int{0, 1, 0, 1, 2, 3}, api.ErrParts},
		{joined(), []int{0, 0, 1, 1}, api.OK}, {joined(), []int{0, 0, 1, 2}, api.ErrParts}, {joined(), []int{0, 1, 2, 2}, api.ErrParts}, {joined(), []int{0, 0, 0, 0}, api.ErrParts}, {joined(), []int{0, 1, 0, 1}, api.ErrParts},
		{graph(3), []int{0, 0, 0}, api.OK}, {graph(3), []int{0, 1, 2}, api.OK}, {graph(3), []int{0, 1, 0}, api.OK}, {graph(1), []int{0}, api.OK}, {graph(1), nil, api.ErrParts}, {graph(1), []int{1}, api.ErrParts},
	} {
		kept := slices.Clone(x.l)
		if err := count.CheckParted(x.g, x.l); err != x.err || !slices.Equal(x.l, kept) {
			t.Error(i, err)
		}
	}
	for _, person := range []int{-1, 3, 5, 32, math.MinInt, math.MaxInt} {
		for at := range 5 {
			l := []int{0, 1, 0, 1, 2}
			l[at] = person
			if err := count.CheckParted(ring(5), l); err != api.ErrParts {
				t.Error(l, err)
			}
		}
	}
}

// P5.2 and P5.11: what Parted returns, and which lists CheckParted accepts, held against all partitions, also such as are not in their normal form.
func TestParteds(t *testing.T) {
	x := noise(11)
	seen := map[api.Errno]int{}
	for _, g := range small(12, 150, 6) {
		r := relatedIn(g)
		for _, l := range partitions(g.Nodes) {
			want := api.ErrParts
			if r.isAllowed(l) {
				want = api.OK
			}
			if err := count.CheckParted(g, l); err != want {
				t.Fatal(g, l, err)
			}
			seen[want]++
			// The same people with other numbers.
			names := x.order(8)
			var other []int
			for _, person := range l {
				other = append(other, names[person])
			}
			if err := count.CheckParted(g, other); (err == api.OK) != r.isAllowed(other) || err != api.OK && err != api.ErrParts {
				t.Fatal(g, other, err)
			}
		}
		if l := parted(t, g); !r.isAllowed(l) || people(l) != leastOf(allowed(g)) {
			t.Fatal(g, l)
		}
	}
	if min(seen[api.OK], seen[api.ErrParts]) < 1000 {
		t.Error(seen)
	}
}

// P5.3: the chapter's example, and other graphs of which it is known.
func TestLeastExamples(t *testing.T) {
	for i, x := range []struct {
		g             api.Graph
		least, clique int
	}{
		{ring(5), 3, 2}, {ring(4), 2, 2}, {ring(3), 3, 3}, {joined(), 2, 2}, {graph(1), 1, 1}, {graph(6), 1, 1}, {full(16), 16, 16}, {ring(15), 3, 2}, {ring(16), 2, 2},
		{shadowed(ring(5)), 4, 2}, {both(ring(5), ring(5)), 6, 4}, {both(ring(5), both(ring(5), ring(5))), 9, 6},
		{with(ring(5), join(0, 2)), 3, 3}, {with(ring(5), cut(0, 2)), 3, 3}, {with(ring(5), join(0, 2), join(1, 3)), 3, 3},
	} {
		if n := least(t, x.g); n != x.least {
			t.Error(i, n)
		}
		if l := clique(t, x.g); len(l) != x.clique {
			t.Error(i, l)
		}
		if is := ask(t, count.Sharp, x.g); is != (x.least == x.clique) {
			t.Error(i, is)
		}
	}
}

// P5.3 and P5.9: Least, Fits and Sharp, held against all allowed partitions and all cliques.
func TestLeasts(t *testing.T) {
	seen := map[bool]int{}
	for _, g := range small(13, 250, 7) {
		want := leastOf(allowed(g))
		if n := least(t, g); n != want {
			t.Fatal(g, n, want)
		}
		for number := range 33 {
			if is, err := count.Fits(g, number); is != (number >= want) || err != api.OK {
				t.Fatal(g, number, is, err)
			}
		}
		sharp := ask(t, count.Sharp, g)
		if sharp != (len(clique(t, g)) == want) || len(clique(t, g)) > want {
			t.Fatal(g, sharp)
		}
		seen[sharp]++
	}
	if min(seen[false], seen[true]) < 3 {
		t.Error(seen)
	}
}

// wrongNumbers returns numbers that are no numbers of people.
func wrongNumbers() []int { return []int{-1, -2, 33, 64, math.MinInt, math.MaxInt} }

// P5.3: numbers of people from 0 to 32 alone.
func TestFitsNumbers(t *testing.T) {
	for _, g := range []api.Graph{graph(1), ring(5), full(16), wide(new(noise), 16, 50)} {
		for _, number := range wrongNumbers() {
			if is, err := count.Fits(g, number); is || err != api.ErrArg {
				t.Error(g, number, is, err)
			}
		}
	}
}

// inOrder gives the nodes to people as the chapter says it, node after node.
func inOrder(g api.Graph, order []int) []int {
	r := relatedIn(g)
	persons := make([]int, g.Nodes)
	var nodes [][]int // of each person, in the order in which people came to be
	for _, n := range order {
		to := slices.IndexFunc(nodes, func(l []int) bool {
			return slices.ContainsFunc(l, func(m int) bool { return r.joined[m][n] })
		})
		if to < 0 {
			to = slices.IndexFunc(nodes, func(l []int) bool {
				return !slices.ContainsFunc(l, func(m int) bool { return r.apart[m][n] })
			})
		}
		if to < 0 {
			to = len(nodes)
			nodes = append(nodes, nil)
		}
		nodes[to] = append(nodes[to], n)
		persons[n] = to
	}
	return normal(persons)
}

// orders returns all orders of so many nodes.
func orders(nodes int) [][]int {
	l := [][]int{nil}
	for n := range nodes {
		var longer [][]int
		for _, order := range l {
			for at := range len(order) + 1 {
				longer = append(longer, slices.Insert(slices.Clone(order), at, n))
			}
		}
		l = longer
	}
	return l
}

// greedy returns what Greedy returns for an order that is right.
func greedy(t testing.TB, g api.Graph, order []int) []int {
	t.Helper()
	kept := slices.Clone(order)
	l, err := count.Greedy(g, order)
	if err != api.OK || !slices.Equal(order, kept) {
		t.Fatal(g, order, err)
	}
	return l
}

// P5.5: the chapter's example, groups that come with their first node, and lists that are no orders.
func TestGreedyExamples(t *testing.T) {
	for i, x := range []struct {
		g           api.Graph
		order, want []int
		err         api.Errno
	}{
		{ring(5), []int{0, 2, 1, 3, 4}, []int{0, 1, 0, 1, 2}, api.OK}, {ring(5), []int{4, 3, 2, 1, 0}, []int{0, 1, 2, 1, 2}, api.OK}, {ring(4), []int{0, 3, 1, 2}, []int{0, 1, 0, 1}, api.OK},
		{graph(4, cut(0, 1), cut(1, 2), cut(2, 3)), []int{0, 3, 1, 2}, []int{0, 1, 2, 0}, api.OK}, // three people, as 0 and 3 went to one
		{with(ring(5), join(0, 3)), []int{3, 1, 0, 2, 4}, []int{0, 1, 2, 0, 1}, api.OK},
		{graph(4, join(0, 3), cut(0, 1)), []int{3, 1, 2, 0}, []int{0, 1, 0, 0}, api.OK}, {graph(4, join(0, 3), cut(0, 1)), []int{1, 3, 2, 0}, []int{0, 1, 1, 0}, api.OK}, // 3 is kept apart from 1, as 0 is
		{graph(1), []int{0}, []int{0}, api.OK}, {graph(1), nil, nil, api.ErrArg}, {graph(1), []int{1}, nil, api.ErrArg}, {graph(1), []int{0, 0}, nil, api.ErrArg},
		{ring(5), nil, nil, api.ErrArg}, {ring(5), []int{0, 1, 2, 3}, nil, api.ErrArg}, {ring(5), []int{0, 1, 2, 3, 3}, nil, api.ErrArg}, {ring(5), []int{0, 1, 2, 3, 5}, nil, api.ErrArg}, {ring(5), []int{1, 2, 3, 4, 5}, nil, api.ErrArg}, {ring(5), []int{0, 1, 2, 3, 4, 4}, nil, api.ErrArg}, {ring(5), []int{0, 1, 2, 3, 4, 5}, nil, api.ErrArg}, {ring(5), []int{0, 0, 1, 2, 3, 4}, nil, api.ErrArg},
	} {
		if l, err := count.Greedy(x.g, x.order); !slices.Equal(l, x.want) || err != x.err {
			t.Error(i, l, err)
		}
	}
	for _, n := range wrongNodes() {
		for at := range 5 {
			order := []int{4, 0, 3, 1, 2}
			order[at] = n
			if l, err := count.Greedy(ring(5), order); len(l) > 0 || err != api.ErrArg {
				t.Error(order, l, err)
			}
		}
	}
}

// P5.5 and P5.10: all orders of few nodes. Some order leads to as few people as there can be.
func TestGreedyOrders(t *testing.T) {
	more := 0 // orders that lead to more people
	for _, g := range small(14, 120, 5) {
		r := relatedIn(g)
		fewest, best := least(t, g), g.Nodes
		for _, order := range orders(g.Nodes) {
			l := greedy(t, g, order)
			if !slices.Equal(l, inOrder(g, order)) || !r.isAllowed(l) || people(l) < fewest || count.CheckParted(g, l) != api.OK {
				t.Fatal(g, order, l)
			}
			best = min(best, people(l))
			if people(l) > fewest {
				more++
			}
		}
		if best != fewest {
			t.Fatal(g, best, fewest)
		}
	}
	if more < 20 {
		t.Error(more)
	}
}

// byPeople returns the nodes in the order of their people.
func byPeople(l []int) []int {
	var order []int
	for person := range people(l) {
		for n, p := range l {
			if p == person {
				order = append(order, n)
			}
		}
	}
	return order
}

// P5.10: in the order of the people of an allowed partition there are at most as many people.
func TestGreedyByPeople(t *testing.T) {
	less := 0
	for _, g := range small(15, 100, 6) {
		for _, p := range allowed(g) {
			l := greedy(t, g, byPeople(p))
			if people(l) > people(p) {
				t.Fatal(g, p, l)
			}
			if people(l) < people(p) {
				less++
			}
		}
	}
	if less < 100 {
		t.Error(less)
	}
}

// P5.5 and P5.10: graphs of up to 16 groups, in any order, and in that of their people.
func TestGreedyWide(t *testing.T) {
	x := noise(16)
	for _, g := range widest(17) {
		r := relatedIn(g)
		fewest := least(t, g)
		for range 10 {
			order := x.order(g.Nodes)
			l := greedy(t, g, order)
			if !slices.Equal(l, inOrder(g, order)) || !r.isAllowed(l) || people(l) < fewest {
				t.Fatal(g, order, l)
			}
			if again := greedy(t, g, byPeople(l)); people(again) > people(l) {
				t.Fatal(g, l, again)
			}
		}
		if l := greedy(t, g, byPeople(parted(t, g))); people(l) != fewest {
			t.Fatal(g, l)
		}
	}
}

// furtherTies returns each join and each cut of two nodes.
func furtherTies(nodes int) []api.Tie {
	var l []api.Tie
	for b := range nodes {
		for a := range b {
			l = append(l, join(a, b), cut(a, b))
		}
	}
	return l
}

// agrees reports whether a partition has the nodes of a tie together, or apart, as the tie says.
func agrees(l []int, x api.Tie) bool { return (l[x.A] == l[x.B]) == (x.Kind == api.TogetherT) }

// checkTie holds the least number of people against that with a further tie, and reports whether it became greater.
func checkTie(t *testing.T, g api.Graph, x api.Tie) bool {
	t.Helper()
	h := with(g, x)
	more, err := count.Least(h)
	if relatedIn(h).contradicts() {
		if more != 0 || err != api.ErrClash {
			t.Fatal(g, x, more, err)
		}
		return false
	}
	before := least(t, g)
	if err != api.OK || more < before || agrees(parted(t, g), x) && more != before {
		t.Fatal(g, x, before, more, err)
	}
	if l := parted(t, h); count.CheckParted(g, l) != api.OK {
		t.Fatal(g, x, l)
	}
	return more > before
}

// P5.11: each further tie of graphs of few nodes, with all partitions that are allowed with it.
func TestMoreTies(t *testing.T) {
	greater := 0
	for _, g := range small(18, 60, 6) {
		for _, x := range furtherTies(g.Nodes) {
			if checkTie(t, g, x) {
				greater++
			}
			h := with(g, x)
			if relatedIn(h).contradicts() {
				continue
			}
			l := allowed(h)
			for _, p := range l {
				if count.CheckParted(h, p) != api.OK || count.CheckParted(g, p) != api.OK || !agrees(p, x) {
					t.Fatal(g, x, p)
				}
			}
		}
	}
	if greater < 30 {
		t.Error(greater)
	}
}

// P5.11: some further ties of graphs of up to 16 groups.
func TestMoreTiesWide(t *testing.T) {
	x := noise(19)
	greater := 0
	for _, g := range widest(20) {
		for range 15 {
			if checkTie(t, g, aTie(&x, g.Nodes, 50)) {
				greater++
			}
		}
	}
	if greater < 20 {
		t.Error(greater)
	}
}

// quotient returns the graph of the groups.
func quotient(t testing.TB, g api.Graph) api.Graph {
	t.Helper()
	q, _, err := ties.Quotient(g)
	if err != api.OK {
		t.Fatal(g, err)
	}
	return q
}

// P5.12: the groups as nodes, and nodes and ties in another order.
func TestGroups(t *testing.T) {
	x := noise(21)
	for _, g := range append(widest(22), small(23, 150, 8)...) {
		fewest, greatest := least(t, g), len(clique(t, g))
		h := moved(g, x.order(g.Nodes))
		slices.Reverse(h.Ties)
		for _, other := range []api.Graph{quotient(t, g), h, quotient(t, h)} {
			if n := least(t, other); n != fewest {
				t.Fatal(g, other, n, fewest)
			}
			if l := clique(t, other); len(l) != greatest {
				t.Fatal(g, other, l, greatest)
			}
			if l := parted(t, other); people(l) != fewest {
				t.Fatal(g, other, l, fewest)
			}
		}
	}
}
