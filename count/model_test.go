package count_test

import (
	"slices"
	"testing"

	"bonehouse/api"
	"bonehouse/count"
)

// noise is a row of numbers that is the same in each run.
type noise uint64

func (x *noise) next() uint64 {
	*x += 0x9e3779b97f4a7c15
	z := uint64(*x)
	z = (z ^ z>>30) * 0xbf58476d1ce4e5b9
	z = (z ^ z>>27) * 0x94d049bb133111eb
	return z ^ z>>31
}

// below returns a number from 0 to n - 1.
func (x *noise) below(n int) int { return int(x.next() % uint64(n)) }

// from returns a number from lo to hi.
func (x *noise) from(lo, hi int) int { return lo + x.below(hi-lo+1) }

// order returns the numbers from 0 to n - 1 in some order.
func (x *noise) order(n int) []int {
	var l []int
	for i := range n {
		l = slices.Insert(l, x.below(i+1), i)
	}
	return l
}

// join and cut return ties.

func join(a, b int) api.Tie { return api.Tie{A: a, B: b, Kind: api.TogetherT, Strength: 1} }

func cut(a, b int) api.Tie { return api.Tie{A: a, B: b, Kind: api.ApartT, Strength: 1} }

// graph returns a graph of so many nodes.
func graph(nodes int, l ...api.Tie) api.Graph { return api.Graph{Nodes: nodes, Ties: l} }

// with returns g with further ties.
func with(g api.Graph, l ...api.Tie) api.Graph {
	return graph(g.Nodes, slices.Concat(g.Ties, l)...)
}

// ring returns nodes in a ring, each of which is kept apart from the next one.
func ring(nodes int) api.Graph {
	g := graph(nodes)
	for n := range nodes {
		g = with(g, cut(n, (n+1)%nodes))
	}
	return g
}

// full returns nodes of which each two are kept apart.
func full(nodes int) api.Graph {
	g := graph(nodes)
	for b := range nodes {
		for a := range b {
			g = with(g, cut(a, b))
		}
	}
	return g
}

// both returns the nodes of g and those of h, each of which is kept apart from each of g.
func both(g, h api.Graph) api.Graph {
	l := slices.Clone(g.Ties)
	for _, t := range h.Ties {
		t.A, t.B = t.A+g.Nodes, t.B+g.Nodes
		l = append(l, t)
	}
	for a := range g.Nodes {
		for b := range h.Nodes {
			l = append(l, cut(a, g.Nodes+b))
		}
	}
	return graph(g.Nodes+h.Nodes, l...)
}

// shadowed returns g with a shadow of each node, kept apart from what the node is kept apart from, and a node that is kept apart from all shadows: this takes one person more, and no greater clique.
func shadowed(g api.Graph) api.Graph {
	nodes := g.Nodes
	l := slices.Clone(g.Ties)
	for _, t := range g.Ties {
		l = append(l, cut(t.A+nodes, t.B), cut(t.A, t.B+nodes))
	}
	for n := range nodes {
		l = append(l, cut(n+nodes, 2*nodes))
	}
	return graph(2*nodes+1, l...)
}

// circle returns nodes in a circle, of which those are kept apart that are one of the steps from each other: step n, if the bit n - 1 is 1.
func circle(nodes int, steps uint) api.Graph {
	g := graph(nodes)
	for n := 1; n <= nodes/2; n++ {
		if steps>>(n-1)&1 == 1 {
			for a := range nodes {
				g = with(g, cut(a, (a+n)%nodes))
			}
		}
	}
	return g
}

// moved returns g with its nodes in another order: the node n becomes order[n].
func moved(g api.Graph, order []int) api.Graph {
	h := graph(g.Nodes)
	for _, x := range g.Ties {
		x.A, x.B = order[x.A], order[x.B]
		h = with(h, x)
	}
	return h
}

// thorny returns graphs of 16 nodes that searches for long proofs came by: each is hard for some way to find one.
func thorny() []api.Graph {
	var l []api.Graph
	for _, rows := range [][16]uint{
		{0, 0, 0x2, 0x6, 0x9, 0x19, 0xc, 0xa, 0x8a, 0x1c7, 0x183, 0x3c7, 0x582, 0x1474, 0x1445, 0x4039},
		{0, 0x1, 0x1, 0x4, 0x1, 0xe, 0x2c, 0x30, 0x95, 0x4f, 0x1d0, 0x59a, 0x653, 0x16c, 0x28aa, 0x7283},
		{0, 0x1, 0x3, 0x4, 0x9, 0x1e, 0x24, 0x49, 0x93, 0x107, 0x20e, 0x750, 0xe18, 0x1870, 0x30e8, 0x71c3},
		{0, 0x1, 0x1, 0, 0x4, 0xb, 0x24, 0x19, 0x24, 0x84, 0x43, 0xa0, 0x613, 0x103, 0x300b, 0x2c03},
	} {
		g := graph(16)
		for b, before := range rows { // from which nodes before it each one is kept apart
			for a := range b {
				if before>>a&1 == 1 {
					g = with(g, cut(a, b))
				}
			}
		}
		l = append(l, g)
	}
	return l
}

// related is which nodes of a graph are joined, and which are kept apart.
type related struct {
	nodes         int
	joined, apart [api.MaxNodes][api.MaxNodes]bool
}

// relatedIn goes through the nodes by which a chain can come, and then through the cuts.
func relatedIn(g api.Graph) *related {
	r := related{nodes: g.Nodes}
	for n := range g.Nodes {
		r.joined[n][n] = true
	}
	for _, t := range g.Ties {
		if t.Kind == api.TogetherT {
			r.joined[t.A][t.B], r.joined[t.B][t.A] = true, true
		}
	}
	for by := range g.Nodes {
		for a := range g.Nodes {
			for b := range g.Nodes {
				r.joined[a][b] = r.joined[a][b] || r.joined[a][by] && r.joined[by][b]
			}
		}
	}
	for _, t := range g.Ties {
		if t.Kind == api.ApartT {
			for a := range g.Nodes {
				for b := range g.Nodes {
					r.apart[a][b] = r.apart[a][b] || r.joined[a][t.A] && r.joined[t.B][b] || r.joined[a][t.B] && r.joined[t.A][b]
				}
			}
		}
	}
	return &r
}

// contradicts reports whether two nodes are joined and kept apart.
func (r *related) contradicts() bool {
	for a := range r.nodes {
		for b := range r.nodes {
			if r.joined[a][b] && r.apart[a][b] {
				return true
			}
		}
	}
	return false
}

// firsts returns the least node of each group.
func (r *related) firsts() []int {
	var l []int
	for n := range r.nodes {
		if !slices.ContainsFunc(l, func(m int) bool { return r.joined[m][n] }) {
			l = append(l, n)
		}
	}
	return l
}

// isClique reports whether each two of the nodes are kept apart.
func (r *related) isClique(l []int) bool {
	for i, n := range l {
		for _, m := range l[:i] {
			if !r.apart[m][n] {
				return false
			}
		}
	}
	return true
}

// allows reports whether joined nodes are of one person, and nodes that are kept apart of different people.
func (r *related) allows(l []int) bool {
	for a := range r.nodes {
		for b := range r.nodes {
			if r.joined[a][b] && l[a] != l[b] || r.apart[a][b] && l[a] == l[b] {
				return false
			}
		}
	}
	return true
}

// isAllowed reports whether l is an allowed partition.
func (r *related) isAllowed(l []int) bool {
	return len(l) == r.nodes && slices.Equal(l, normal(l)) && r.allows(l)
}

// people returns how many different people a partition has.
func people(l []int) int {
	kept := slices.Clone(l)
	slices.Sort(kept)
	return len(slices.Compact(kept))
}

// normal returns a partition with its people numbered in the order of their first nodes.
func normal(l []int) []int {
	var firsts, out []int
	for _, person := range l {
		if !slices.Contains(firsts, person) {
			firsts = append(firsts, person)
		}
		out = append(out, slices.Index(firsts, person))
	}
	return out
}

// partitions returns all partitions of so many nodes, in their normal form.
func partitions(nodes int) [][]int {
	l := [][]int{nil}
	for range nodes {
		var longer [][]int
		for _, p := range l {
			for person := range people(p) + 1 {
				longer = append(longer, append(slices.Clone(p), person))
			}
		}
		l = longer
	}
	return l
}

// allowed returns all allowed partitions of a graph of few nodes.
func allowed(g api.Graph) [][]int {
	r := relatedIn(g)
	return slices.DeleteFunc(partitions(g.Nodes), func(l []int) bool { return !r.allows(l) })
}

// leastOf returns the least number of people of some partitions.
func leastOf(l [][]int) int {
	least := len(l[0])
	for _, p := range l {
		least = min(least, people(p))
	}
	return least
}

// masks returns, for each group of a graph, from which groups it is kept apart, as bits.
func (r *related) masks() []uint {
	firsts := r.firsts()
	l := make([]uint, len(firsts))
	for i, a := range firsts {
		for k, b := range firsts {
			if r.apart[a][b] {
				l[i] |= 1 << k
			}
		}
	}
	return l
}

// counted returns the least number of people of a graph, and how many nodes its greatest clique has: for all sets of groups, one after the other, from those of fewer groups.
func counted(g api.Graph) (least, clique int) {
	apart := relatedIn(g).masks()
	all := uint(1)<<len(apart) - 1
	loose, tight := make([]bool, all+1), make([]bool, all+1) // no two are kept apart; each two are
	people := make([]int, all+1)
	loose[0], tight[0] = true, true
	size := make([]int, all+1)
	for s := uint(1); s <= all; s++ {
		first := 0
		for s>>first&1 == 0 {
			first++
		}
		rest := s &^ (1 << first)
		size[s] = size[rest] + 1
		loose[s] = loose[rest] && apart[first]&rest == 0
		tight[s] = tight[rest] && rest&^apart[first] == 0
		if tight[s] {
			clique = max(clique, size[s])
		}
		people[s] = len(apart)
		for person := rest; ; person = (person - 1) & rest { // who is with the first one of them
			if loose[person|1<<first] {
				people[s] = min(people[s], people[rest&^person]+1)
			}
			if person == 0 {
				break
			}
		}
	}
	return people[all], clique
}

// aTie returns a tie of any strength and source, now and then a join.
func aTie(x *noise, nodes, joins int) api.Tie {
	t := cut(x.below(nodes), x.below(nodes-1))
	if t.B >= t.A {
		t.B++
	}
	if x.below(100) < joins {
		t.Kind = api.TogetherT
	}
	t.Strength, t.Source = x.from(1, 100), x.below(4096)
	return t
}

// aGraph returns a graph of at most so many nodes and ties, which does not contradict itself. It has less ties than it was tried with.
func aGraph(x *noise, nodes, most int) api.Graph {
	g := graph(x.from(1, nodes))
	if g.Nodes == 1 {
		return g
	}
	return further(x, g, x.below(most+1), x.below(30))
}

// further returns g with so many further ties, less those with which it would contradict itself.
func further(x *noise, g api.Graph, many, joins int) api.Graph {
	for range many {
		if h := with(g, aTie(x, g.Nodes, joins)); !relatedIn(h).contradicts() {
			g = h
		}
	}
	return g
}

// aRing returns a ring of five nodes among so many, with a few further ties: often it takes questions to prove how many people there are at least.
func aRing(x *noise, nodes int) api.Graph {
	g := graph(x.from(5, nodes), ring(5).Ties...)
	return moved(further(x, g, x.below(2*(nodes-4)), 30), x.order(g.Nodes))
}

// wide returns a graph of so many groups and 32 nodes, which does not contradict itself, in which many groups are kept apart.
func wide(x *noise, groups, percent int) api.Graph {
	g := graph(32)
	order := x.order(32)
	for i, n := range order {
		if i >= groups {
			g = with(g, join(n, order[x.below(i)]))
		}
	}
	r := relatedIn(g)
	for b, m := range order[:groups] {
		for _, n := range order[:b] {
			if x.below(100) < percent {
				g = with(g, cut(ofGroup(x, r, m), ofGroup(x, r, n)))
			}
		}
	}
	return g
}

// ofGroup returns a node that is joined with n.
func ofGroup(x *noise, r *related, n int) int {
	for {
		if m := x.below(r.nodes); r.joined[n][m] {
			return m
		}
	}
}

// joined returns the graph of the stage's test, with two groups of two nodes.
func joined() api.Graph { return graph(4, join(0, 1), cut(1, 2), join(2, 3)) }

// small returns many graphs of few nodes, at least five.
func small(seed noise, many, nodes int) []api.Graph {
	l := []api.Graph{graph(1), graph(2), graph(2, cut(0, 1)), graph(2, join(1, 0)), joined(), ring(3), ring(4), ring(5), graph(nodes), full(nodes)}
	for i := range many {
		if i%4 == 0 {
			l = append(l, aRing(&seed, nodes))
		} else {
			l = append(l, aGraph(&seed, nodes, i%4*2*nodes))
		}
	}
	return l
}

// hard returns graphs of at most 16 groups of which it takes many cases to prove how many people there are at least.
func hard() []api.Graph {
	odd := ring(5)
	sparse := shadowed(odd) // 11 nodes, no three of them kept apart, four people
	return append([]api.Graph{
		ring(15), sparse, both(odd, odd), both(odd, both(odd, odd)), both(sparse, odd), both(graph(1), both(odd, both(odd, odd))),
		both(ring(7), ring(9)), shadowed(ring(7)), both(graph(1), shadowed(ring(7))), shadowed(graph(2, cut(0, 1))),
		circle(13, 0b001101), circle(16, 0b10010011), circle(16, 0b01011), circle(14, 0b0010111), full(16), graph(16),
	}, thorny()...)
}

// proved returns a proof, which is accepted, and whether there is one.
func proved(t testing.TB, g api.Graph, number int) ([]api.Step, bool) {
	t.Helper()
	l, is, err := count.Proof(g, number)
	if err != api.OK || len(l) > api.MaxSteps || is != (len(l) > 0) {
		t.Fatal(g, number, len(l), is, err)
	}
	if is && count.CheckProof(g, number, l) != api.OK {
		t.Fatal(g, number, l)
	}
	return l, is
}

// least, parted and clique return what the package tells of a graph that is not to have an error.

func least(t testing.TB, g api.Graph) int { t.Helper(); return ask(t, count.Least, g) }

func parted(t testing.TB, g api.Graph) []int { t.Helper(); return ask(t, count.Parted, g) }

func clique(t testing.TB, g api.Graph) []int { t.Helper(); return ask(t, count.Clique, g) }

// ask calls one of the functions of a graph alone.
func ask[R any](t testing.TB, f func(g api.Graph) (R, api.Errno), g api.Graph) R {
	t.Helper()
	r, err := f(g)
	if err != api.OK {
		t.Fatal(g, err)
	}
	return r
}
