package parts_test

import (
	"slices"
	"testing"

	"bonehouse/api"
	"bonehouse/parts"
)

// relation returns how two nodes are related over some partitions: 0 if there are none.
func relation(all [][]int, a, b int) int {
	together := slices.ContainsFunc(all, func(l []int) bool { return l[a] == l[b] })
	separate := slices.ContainsFunc(all, func(l []int) bool { return l[a] != l[b] })
	switch {
	case together && separate:
		return api.PossibleP
	case together:
		return api.SurelyP
	case separate:
		return api.NeverP
	}
	return 0
}

// size returns how many nodes the person of a node has.
func size(l []int, node int) int {
	n := 0
	for _, person := range l {
		if person == l[node] {
			n++
		}
	}
	return n
}

// sizes returns the least and the greatest number of nodes of the person of a node.
func sizes(all [][]int, node int) api.Span {
	span := api.Span{Lo: size(all[0], node), Hi: size(all[0], node)}
	for _, l := range all {
		span.Lo, span.Hi = min(span.Lo, size(l, node)), max(span.Hi, size(l, node))
	}
	return span
}

// P6.4 and P6.6: the chapter's examples.
func TestRelationExamples(t *testing.T) {
	five := ring(5)
	for i, x := range []struct {
		g          api.Graph
		most, a, b int
		want       int
		err        api.Errno
	}{
		{example(), 0, 0, 2, api.NeverP, api.OK}, {example(), 0, 0, 1, api.SurelyP, api.OK}, {example(), 0, 2, 3, api.PossibleP, api.OK}, {example(), 1, 0, 3, 0, api.ErrNone}, {example(), 1, 3, 3, 0, api.ErrNone}, {example(), 0, 3, 3, api.SurelyP, api.OK}, {example(), 2, 2, 2, api.SurelyP, api.OK},
		{example(cut(2, 3)), 2, 3, 0, api.SurelyP, api.OK}, {example(cut(2, 3)), 3, 3, 0, api.PossibleP, api.OK}, {example(cut(2, 3)), 0, 3, 0, api.PossibleP, api.OK}, {example(cut(2, 3)), 1, 3, 0, 0, api.ErrNone},
		{five, 2, 0, 2, 0, api.ErrNone}, {five, 3, 0, 2, api.PossibleP, api.OK}, {five, 3, 0, 1, api.NeverP, api.OK}, {with(five, cut(0, 2)), 3, 0, 3, api.PossibleP, api.OK}, {with(five, cut(0, 2), cut(0, 3)), 3, 1, 3, api.SurelyP, api.OK}, {with(five, cut(0, 2), cut(0, 3)), 3, 1, 4, api.NeverP, api.OK}, {with(five, cut(0, 2), cut(0, 3)), 4, 1, 4, api.PossibleP, api.OK},
		{graph(1), 0, 0, 0, api.SurelyP, api.OK}, {graph(2), 1, 0, 1, api.SurelyP, api.OK}, {graph(2), 2, 1, 0, api.PossibleP, api.OK}, {filled(full(2)), 0, 0, 1, api.NeverP, api.OK}, {filled(graph(2, join(0, 1))), 1, 1, 0, api.SurelyP, api.OK},
	} {
		if n, err := parts.Relation(x.g, x.most, x.a, x.b); n != x.want || err != x.err {
			t.Error(i, n, err)
		}
	}
	if span, err := parts.Sizes(example(), 0, 0); span != (api.Span{Lo: 2, Hi: 3}) || err != api.OK {
		t.Error(span, err)
	}
	if same, never, err := parts.Sure(example(cut(2, 3)), 2); !slices.Equal(same, [][2]int{{0, 1}, {0, 3}, {1, 3}}) || !slices.Equal(never, [][2]int{{0, 2}, {1, 2}, {2, 3}}) || err != api.OK {
		t.Error(same, never, err)
	}
	if g, err := parts.Closed(example(cut(2, 3)), 2); !sameGraph(g, example(cut(2, 3), join(0, 3), join(1, 3))) || err != api.OK {
		t.Error(g, err)
	}
	if g, err := parts.Closed(with(five, cut(0, 2), cut(0, 3)), 3); !sameGraph(g, with(five, cut(0, 2), cut(0, 3), join(1, 3), join(2, 4), cut(1, 4))) || err != api.OK {
		t.Error(g, err)
	}
}

// check calls all questions of relations, and holds their answers against all allowed partitions. It returns how many pairs are related in each way.
func check(t *testing.T, g api.Graph, most int, all [][]int) [4]int {
	t.Helper()
	r := relatedIn(g)
	ties := slices.Clone(g.Ties)
	var seen [4]int
	var same, never [][2]int
	closed := g
	var apart []api.Tie
	for a := range g.Nodes {
		for b := range g.Nodes {
			want := relation(all, a, b)
			seen[want]++
			got, err := parts.Relation(g, most, a, b)
			if got != want || (err == api.OK) == (want == 0) || want == 0 && err != api.ErrNone {
				t.Fatal(g, most, a, b, got, err)
			}
			checkWitnesses(t, g, r, most, a, b, want)
			switch {
			case a < b && want == api.SurelyP:
				same = append(same, [2]int{a, b})
				if !r.joined[a][b] {
					closed = with(closed, join(a, b))
				}
			case a < b && want == api.NeverP:
				never = append(never, [2]int{a, b})
				if !r.apart[a][b] {
					apart = append(apart, cut(a, b))
				}
			}
		}
	}
	closed = with(closed, apart...)
	checkSure(t, g, most, len(all) > 0, same, never, closed)
	for n := range g.Nodes {
		span, err := parts.Sizes(g, most, n)
		if len(all) == 0 && (span != api.Span{} || err != api.ErrNone) || len(all) > 0 && (span != sizes(all, n) || err != api.OK) {
			t.Fatal(g, most, n, span, err)
		}
	}
	if !slices.Equal(g.Ties, ties) {
		t.Fatal(g, ties)
	}
	return seen
}

// checkWitnesses holds Together and Separate of two nodes against how they are related.
func checkWitnesses(t *testing.T, g api.Graph, r *related, most, a, b, want int) {
	t.Helper()
	l, is, err := parts.Together(g, most, a, b)
	if is != (want == api.SurelyP || want == api.PossibleP) || err != api.OK || is && !(len(l) == g.Nodes && isNormal(l) && r.allows(most, l) && l[a] == l[b]) || !is && len(l) > 0 {
		t.Fatal(g, most, a, b, l, is, err)
	}
	m, is, err := parts.Separate(g, most, a, b)
	if is != (want == api.NeverP || want == api.PossibleP) || err != api.OK || is && !(len(m) == g.Nodes && isNormal(m) && r.allows(most, m) && m[a] != m[b]) || !is && len(m) > 0 {
		t.Fatal(g, most, a, b, m, is, err)
	}
}

// checkSure holds Sure and Closed against what they are to be, if some partition is allowed.
func checkSure(t *testing.T, g api.Graph, most int, some bool, same, never [][2]int, closed api.Graph) {
	t.Helper()
	s, n, err := parts.Sure(g, most)
	h, wrong := parts.Closed(g, most)
	switch {
	case !some:
		if len(s) > 0 || len(n) > 0 || err != api.ErrNone || !sameGraph(h, api.Graph{}) || wrong != api.ErrNone {
			t.Fatal(g, most, s, n, err, h, wrong)
		}
	case !slices.Equal(s, same) || !slices.Equal(n, never) || err != api.OK:
		t.Fatal(g, most, s, n, err)
	case len(closed.Ties) > api.MaxTies:
		if !sameGraph(h, api.Graph{}) || wrong != api.ErrLimit {
			t.Fatal(g, most, h, wrong)
		}
	case !sameGraph(h, closed) || wrong != api.OK:
		t.Fatal(g, most, h, wrong)
	}
}

// P6.4, P6.6: all pairs of graphs of few nodes, for all numbers of people.
func TestRelations(t *testing.T) {
	var seen [4]int
	for _, g := range small(15, 150, 6) {
		for _, most := range mosts(g.Nodes) {
			for i, n := range check(t, g, most, allowed(g, most)) {
				seen[i] += n
			}
		}
	}
	if slices.Min(seen[:]) < 1000 {
		t.Error(seen)
	}
}

// tight returns a graph of so many groups of which it follows for few people what is one person, and what is not: each node is kept apart from most of those of other people.
func tight(x *noise, groups, people int) api.Graph {
	g := wide(x, groups, 0)
	r := relatedIn(g)
	firsts := r.firsts()
	persons := aPartition(x, groups, people)
	for b := range firsts {
		for a := range b {
			if persons[a] != persons[b] && x.below(100) < 85 {
				g = with(g, cut(firsts[a], firsts[b]))
			}
		}
	}
	return g
}

// P6.4, P6.6: graphs of up to 10 groups and 32 nodes.
func TestWideRelations(t *testing.T) {
	x := noise(16)
	l := []api.Graph{full(10), ring(9), wide(&x, 10, 30), wide(&x, 8, 60), graph(10)}
	for people := 2; people <= 5; people++ {
		l = append(l, tight(&x, 10, people), tight(&x, 9, people))
	}
	var seen [4]int
	for _, g := range l {
		all := allowedWide(g)
		for _, most := range []int{2, 3, 4, 5, 0} {
			some := ofAtMost(all, most)
			if len(some) > 1000 {
				continue
			}
			for k, n := range check(t, g, most, some) {
				seen[k] += n
			}
		}
	}
	if slices.Min(seen[:]) < 1000 {
		t.Error(seen)
	}
}

// P6.6: there are no more than 512 ties, those of g being any.
func TestClosedLimit(t *testing.T) {
	// For two people, 6 nodes kept apart from one of them are all of one person: 15 pairs.
	g := graph(7)
	for n := range 6 {
		g = with(g, cut(n, 6))
	}
	for _, x := range []struct {
		ties int
		err  api.Errno
	}{{6, api.OK}, {496, api.OK}, {497, api.OK}, {498, api.ErrLimit}, {512, api.ErrLimit}} {
		h := g
		for len(h.Ties) < x.ties {
			h = with(h, cut(0, 6))
		}
		c, err := parts.Closed(h, 2)
		if err != x.err || err == api.OK && len(c.Ties) != x.ties+15 || err != api.OK && !sameGraph(c, api.Graph{}) {
			t.Error(x.ties, len(c.Ties), err)
		}
		if c, err := parts.Closed(h, 1); err != api.ErrNone || !sameGraph(c, api.Graph{}) {
			t.Error(x.ties, c, err)
		}
		// Without any pair that is to be added there is no limit.
		if c, err := parts.Closed(h, 0); err != api.OK || !sameGraph(c, h) {
			t.Error(x.ties, len(c.Ties), err)
		}
	}
}

// P6.6 and R2: what Closed returns shares no memory with its graph, nor have the pairs of Sure a common one.
func TestClosedMemory(t *testing.T) {
	g := example(cut(2, 3))
	g.Ties = slices.Grow(g.Ties, 10)
	kept := slices.Clone(g.Ties[:10])
	for most := range 4 {
		c, _ := parts.Closed(g, most)
		clear(c.Ties)
		clear(c.Ties[len(c.Ties):cap(c.Ties)])
		if !slices.Equal(g.Ties[:10], kept) {
			t.Fatal(most, g)
		}
	}
	same, never, _ := parts.Sure(g, 2)
	before := slices.Clone(never)
	clear(same[:cap(same)])
	if !slices.Equal(never, before) {
		t.Error(never)
	}
}

// P6.10: Closed allows the same partitions for at most so many people, and adds nothing to what it returned.
func TestClosed(t *testing.T) {
	added := 0
	for _, g := range append(small(17, 150, 6), ring(9), full(10)) {
		for _, most := range mosts(g.Nodes) {
			c, err := parts.Closed(g, most)
			all := collect(t, g, most)
			if (err == api.OK) != (len(all) > 0) || err != api.OK && err != api.ErrNone {
				t.Fatal(g, most, err)
			}
			if err != api.OK {
				continue
			}
			added += len(c.Ties) - len(g.Ties)
			if l := collect(t, c, most); !sameLists(l, all) {
				t.Fatal(g, most, c)
			}
			if again, err := parts.Closed(c, most); !sameGraph(again, c) || err != api.OK {
				t.Fatal(g, most, c, again, err)
			}
		}
	}
	if added < 200 {
		t.Error(added)
	}
}

// P6.10: graphs of up to 10 groups and 32 nodes.
func TestClosedWide(t *testing.T) {
	x := noise(18)
	added := 0
	for people := 2; people <= 5; people++ {
		for _, g := range []api.Graph{tight(&x, 10, people), tight(&x, 8, people)} {
			most := people + x.below(2)
			c, err := parts.Closed(g, most)
			if err == api.ErrNone || err == api.ErrLimit {
				continue
			}
			added += len(c.Ties) - len(g.Ties)
			if again, wrong := parts.Closed(c, most); err != api.OK || wrong != api.OK || !sameGraph(again, c) || !sameLists(collect(t, c, most), collect(t, g, most)) {
				t.Fatal(g, most, err, wrong)
			}
		}
	}
	if added < 200 {
		t.Error(added)
	}
}

// sure returns the pairs that Sure returns, and whether there are partitions.
func sure(t testing.TB, g api.Graph, most int) ([][2]int, [][2]int, bool) {
	t.Helper()
	same, never, err := parts.Sure(g, most)
	if err != api.OK && err != api.ErrNone && err != api.ErrClash {
		t.Fatal(g, most, err)
	}
	return same, never, err == api.OK
}

// P6.12: with a further tie no pair becomes otherwise that was surely, or never, of one person, and Sizes lies within what it was.
func TestMoreTies(t *testing.T) {
	more := 0
	for _, g := range append(small(19, 50, 5), ring(6), tight(new(noise), 7, 3)) {
		for _, most := range []int{0, 2, 3} {
			same, never, is := sure(t, g, most)
			if !is {
				continue
			}
			for b := range min(g.Nodes, 8) {
				for a := range b {
					for _, x := range []api.Tie{join(a, b), cut(a, b)} {
						more += checkMore(t, g, most, x, same, never)
					}
				}
			}
		}
	}
	if more < 500 {
		t.Error(more)
	}
}

// checkMore holds a graph with a further tie against that without it, and returns how many pairs more are surely, or never, of one person.
func checkMore(t *testing.T, g api.Graph, most int, x api.Tie, same, never [][2]int) int {
	t.Helper()
	h := with(g, x)
	s, n, is := sure(t, h, most)
	if !is {
		return 0
	}
	for _, pair := range same {
		if !slices.Contains(s, pair) {
			t.Fatal(g, most, x, pair)
		}
	}
	for _, pair := range never {
		if !slices.Contains(n, pair) {
			t.Fatal(g, most, x, pair)
		}
	}
	for node := range g.Nodes {
		before, err := parts.Sizes(g, most, node)
		after, wrong := parts.Sizes(h, most, node)
		if err != api.OK || wrong != api.OK || after.Lo < before.Lo || after.Hi > before.Hi || after.Lo > after.Hi {
			t.Fatal(g, most, x, node, before, after, err, wrong)
		}
	}
	return len(s) + len(n) - len(same) - len(never)
}
