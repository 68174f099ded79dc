package parts_test

import (
	"slices"
	"testing"

	"bonehouse/api"
	"bonehouse/parts"
)

// noise is a row of numbers that is the same in each run.
type noise uint64

func (x *noise) next() uint64 {
	*x += 0x9e3779b97f4a7c15
	z := uint64(*x)
	z = (z ^ z>>30) * 0xbf58476d1ce4e5b9
	z = (z ^ z>>27) * 0x94d049bb133111eb
	return z ^ z>>31
}

// below returns a number from 0 to n - 1.
func (x *noise) below(n int) int { return int(x.next() % uint64(n)) }

// from returns a number from lo to hi.
func (x *noise) from(lo, hi int) int { return lo + x.below(hi-lo+1) }

// order returns the numbers from 0 to n - 1 in some order.
func (x *noise) order(n int) []int {
	var l []int
	for i := range n {
		l = slices.Insert(l, x.below(i+1), i)
	}
	return l
}

// join and cut return ties as a further one.

func join(a, b int) api.Tie { return api.Tie{A: a, B: b, Kind: api.TogetherT, Strength: 1} }

func cut(a, b int) api.Tie { return api.Tie{A: a, B: b, Kind: api.ApartT, Strength: 1} }

// graph returns a graph of so many nodes.
func graph(nodes int, l ...api.Tie) api.Graph { return api.Graph{Nodes: nodes, Ties: l} }

// with returns g with further ties.
func with(g api.Graph, l ...api.Tie) api.Graph {
	return graph(g.Nodes, slices.Concat(g.Ties, l)...)
}

// example returns the chapter's graph, with further ties: 0 and 1 are joined, 1 and 2 are kept apart.
func example(l ...api.Tie) api.Graph { return with(graph(4, join(0, 1), cut(1, 2)), l...) }

// ring returns nodes in a ring, each of which is kept apart from the next one.
func ring(nodes int) api.Graph {
	g := graph(nodes)
	for n := range nodes {
		g = with(g, cut(n, (n+1)%nodes))
	}
	return g
}

// full returns nodes of which each two are kept apart.
func full(nodes int) api.Graph {
	g := graph(nodes)
	for b := range nodes {
		for a := range b {
			g = with(g, cut(a, b))
		}
	}
	return g
}

// twice returns two rings of five nodes, each node of the one kept apart from each of the other one: it takes many cases to prove that they are six people.
func twice() api.Graph {
	g := graph(10, ring(5).Ties...)
	for n := range 5 {
		g = with(g, cut(5+n, 5+(n+1)%5))
		for m := range 5 {
			g = with(g, cut(n, 5+m))
		}
	}
	return g
}

// filled returns g with its first tie so often that it has as many ties as a graph can have.
func filled(g api.Graph) api.Graph {
	for len(g.Ties) < api.MaxTies {
		g = with(g, g.Ties[0])
	}
	return g
}

// sameGraph reports whether two graphs are equal.
func sameGraph(g, h api.Graph) bool { return g.Nodes == h.Nodes && slices.Equal(g.Ties, h.Ties) }

// related is which nodes of a graph are joined, and which are kept apart.
type related struct {
	nodes         int
	joined, apart [api.MaxNodes][api.MaxNodes]bool
}

// relatedIn goes through the nodes by which a chain can come, and then through the cuts.
func relatedIn(g api.Graph) *related {
	r := related{nodes: g.Nodes}
	for n := range g.Nodes {
		r.joined[n][n] = true
	}
	for _, t := range g.Ties {
		if t.Kind == api.TogetherT {
			r.joined[t.A][t.B], r.joined[t.B][t.A] = true, true
		}
	}
	for by := range g.Nodes {
		for a := range g.Nodes {
			for b := range g.Nodes {
				r.joined[a][b] = r.joined[a][b] || r.joined[a][by] && r.joined[by][b]
			}
		}
	}
	for _, t := range g.Ties {
		if t.Kind == api.ApartT {
			for a := range g.Nodes {
				for b := range g.Nodes {
					r.apart[a][b] = r.apart[a][b] || r.joined[a][t.A] && r.joined[t.B][b] || r.joined[a][t.B] && r.joined[t.A][b]
				}
			}
		}
	}
	return &r
}

// contradicts reports whether two nodes are joined and kept apart.
func (r *related) contradicts() bool {
	for a := range r.nodes {
		for b := range r.nodes {
			if r.joined[a][b] && r.apart[a][b] {
				return true
			}
		}
	}
	return false
}

// firsts returns the least node of each group.
func (r *related) firsts() []int {
	var l []int
	for n := range r.nodes {
		if !slices.ContainsFunc(l, func(m int) bool { return r.joined[m][n] }) {
			l = append(l, n)
		}
	}
	return l
}

// allows reports whether joined nodes are of one person, nodes that are kept apart are of different people, and there are not too many.
func (r *related) allows(most int, l []int) bool {
	for a := range r.nodes {
		for b := range r.nodes {
			if r.joined[a][b] && l[a] != l[b] || r.apart[a][b] && l[a] == l[b] {
				return false
			}
		}
	}
	return most == 0 || people(l) <= most
}

// people returns how many different people a partition has.
func people(l []int) int {
	kept := slices.Clone(l)
	slices.Sort(kept)
	return len(slices.Compact(kept))
}

// isNormal reports whether l is a partition in its normal form, as the chapter says it.
func isNormal(l []int) bool {
	if len(l) < 1 || len(l) > api.MaxNodes || l[0] != 0 {
		return false
	}
	for n := 1; n < len(l); n++ {
		if l[n] < 0 || l[n]-1 > slices.Max(l[:n]) {
			return false
		}
	}
	return true
}

// partitions returns all partitions of so many nodes, in their normal form, in order.
func partitions(nodes int) [][]int {
	l := [][]int{nil}
	for range nodes {
		var longer [][]int
		for _, p := range l {
			for person := range people(p) + 1 {
				longer = append(longer, append(slices.Clone(p), person))
			}
		}
		l = longer
	}
	return l
}

// allowed returns all partitions that a graph of few nodes allows, in order.
func allowed(g api.Graph, most int) [][]int {
	r := relatedIn(g)
	return slices.DeleteFunc(partitions(g.Nodes), func(l []int) bool { return !r.allows(most, l) })
}

// allowedWide returns all partitions that a graph of few groups allows, in order: those of the least nodes of the groups, each of which the other nodes follow.
func allowedWide(g api.Graph) [][]int {
	r := relatedIn(g)
	firsts := r.firsts()
	var all [][]int
	for _, p := range partitions(len(firsts)) {
		if r.clashes(firsts, p) {
			continue
		}
		l := make([]int, g.Nodes)
		for n := range l {
			l[n] = p[slices.IndexFunc(firsts, func(m int) bool { return r.joined[m][n] })]
		}
		all = append(all, l)
	}
	return all
}

// ofAtMost returns those partitions that have at most so many people.
func ofAtMost(all [][]int, most int) [][]int {
	return slices.DeleteFunc(slices.Clone(all), func(l []int) bool { return most > 0 && slices.Max(l) >= most })
}

// clashes reports whether some nodes that are kept apart are of one person.
func (r *related) clashes(nodes, people []int) bool {
	for i, a := range nodes {
		for k, b := range nodes[:i] {
			if people[i] == people[k] && r.apart[a][b] {
				return true
			}
		}
	}
	return false
}

// aTie returns a tie of any strength and source, now and then a join.
func aTie(x *noise, nodes, joins int) api.Tie {
	t := cut(x.below(nodes), x.below(nodes-1))
	if t.B >= t.A {
		t.B++
	}
	if x.below(100) < joins {
		t.Kind = api.TogetherT
	}
	t.Strength, t.Source = x.from(1, 100), x.below(4096)
	return t
}

// aGraph returns a graph of so many nodes with some ties, less those with which it would contradict itself.
func aGraph(x *noise, nodes, many, joins int) api.Graph {
	g := graph(nodes)
	for range many {
		if h := with(g, aTie(x, nodes, joins)); !relatedIn(h).contradicts() {
			g = h
		}
	}
	return g
}

// small returns graphs of few nodes, at least five.
func small(seed noise, many, nodes int) []api.Graph {
	l := []api.Graph{graph(1), graph(2), graph(2, cut(0, 1)), graph(2, join(1, 0)), example(), example(cut(2, 3)), ring(3), ring(4), ring(5), graph(nodes), full(nodes)}
	for i := range many {
		l = append(l, aGraph(&seed, seed.from(2, nodes), i%12*nodes/4, seed.below(40)))
	}
	return l
}

// wide returns a graph of so many groups and 32 nodes, which does not contradict itself.
func wide(x *noise, groups, percent int) api.Graph {
	g := graph(32)
	order := x.order(32)
	for i, n := range order {
		if i >= groups {
			g = with(g, join(n, order[x.below(i)]))
		}
	}
	for b, m := range order[:groups] {
		for _, n := range order[:b] {
			if x.below(100) < percent {
				g = with(g, cut(m, n))
			}
		}
	}
	return g
}

// widest returns graphs of up to 10 groups, of up to 32 nodes.
func widest(seed noise) []api.Graph {
	l := []api.Graph{graph(10), full(10), ring(10), ring(9), graph(32, wide(&seed, 1, 0).Ties...), with(graph(11), join(3, 10))}
	for percent := 10; percent <= 90; percent += 20 {
		l = append(l, wide(&seed, 10, percent), wide(&seed, seed.from(5, 9), percent))
	}
	return l
}

// collect returns all that All yields, each of which is kept as it came.
func collect(t testing.TB, g api.Graph, most int) [][]int {
	t.Helper()
	all, err := parts.All(g, most)
	if err != api.OK {
		t.Fatal(g, most, err)
	}
	return slices.Collect(all)
}

// sameLists reports whether two lists of lists are equal.
func sameLists(a, b [][]int) bool {
	return slices.EqualFunc(a, b, func(l, m []int) bool { return slices.Equal(l, m) })
}

// lists yields all lists of some numbers that are not longer than that.
func lists(numbers []int, longest int, each func(l []int)) {
	l := [][]int{nil}
	for length := 0; ; length++ {
		var longer [][]int
		for _, p := range l {
			each(p)
			for _, n := range numbers {
				longer = append(longer, append(slices.Clone(p), n))
			}
		}
		if length == longest {
			return
		}
		l = longer
	}
}

// aPartition returns a partition of so many nodes, of at most so many people, in its normal form.
func aPartition(x *noise, nodes, most int) []int {
	l := []int{0}
	for len(l) < nodes {
		l = append(l, x.below(min(slices.Max(l)+2, most)))
	}
	return l
}
