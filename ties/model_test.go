package ties_test

import (
	"slices"
	"testing"

	"bonehouse/api"
	"bonehouse/ties"
)

// noise is a row of numbers that is the same in each run.
type noise uint64

func (x *noise) next() uint64 {
	*x += 0x9e3779b97f4a7c15
	z := uint64(*x)
	z = (z ^ z>>30) * 0xbf58476d1ce4e5b9
	z = (z ^ z>>27) * 0x94d049bb133111eb
	return z ^ z>>31
}

// below returns a number from 0 to n - 1.
func (x *noise) below(n int) int { return int(x.next() % uint64(n)) }

// from returns a number from lo to hi.
func (x *noise) from(lo, hi int) int { return lo + x.below(hi-lo+1) }

// join and cut return ties.

func join(a, b, strength, source int) api.Tie {
	return api.Tie{A: a, B: b, Kind: api.TogetherT, Strength: strength, Source: source}
}

func cut(a, b, strength, source int) api.Tie {
	return api.Tie{A: a, B: b, Kind: api.ApartT, Strength: strength, Source: source}
}

// graph returns a graph of so many nodes.
func graph(nodes int, l ...api.Tie) api.Graph { return api.Graph{Nodes: nodes, Ties: l} }

// example returns the graph of the chapter's examples.
func example() api.Graph {
	return graph(5, join(0, 1, 50, 1), join(1, 2, 20, 2), cut(2, 3, 70, 1), join(3, 4, 90, 3))
}

// wrong returns it with the further join of the examples, with which it contradicts itself.
func wrong() api.Graph { return with(example(), join(0, 3, 60, 4)) }

// with returns g with further ties.
func with(g api.Graph, l ...api.Tie) api.Graph {
	return graph(g.Nodes, slices.Concat(g.Ties, l)...)
}

// line returns the graph in which each node is joined with the next one, with a cut in the middle of the last node and the one before it.
func line(nodes int) api.Graph {
	g := graph(nodes)
	for n := range nodes - 2 {
		g = with(g, join(n+1, n, 100-n, n))
	}
	return with(g, cut(nodes-1, nodes-2, 50, 100))
}

// full returns a graph of 32 nodes with 512 ties, which does not contradict itself: even nodes are joined with even ones, odd ones with odd ones, and others kept apart.
func full() api.Graph {
	x := noise(7)
	g := graph(32)
	for len(g.Ties) < 512 {
		a, b := x.below(32), x.below(32)
		if a == b {
			continue
		}
		t := join(a, b, x.from(1, 100), x.below(4096))
		if (a+b)%2 == 1 {
			t.Kind = api.ApartT
		}
		g.Ties = append(g.Ties, t)
	}
	return g
}

// aTie returns a tie of few strengths and sources, so that these are often equal.
func aTie(x *noise, nodes int) api.Tie {
	t := join(x.below(nodes), x.below(nodes-1), x.from(1, 4), x.below(5))
	if t.B >= t.A {
		t.B++
	}
	if x.below(3) == 0 {
		t.Kind = api.ApartT
	}
	return t
}

// aGraph returns a graph of at most so many nodes and ties.
func aGraph(x *noise, nodes, most int) api.Graph {
	g := graph(x.from(2, nodes))
	for range x.below(most + 1) {
		g.Ties = append(g.Ties, aTie(x, g.Nodes))
	}
	return g
}

// graphs returns many graphs: those of the examples, the greatest ones, small ones and larger ones.
func graphs(seed noise, small, larger int) []api.Graph {
	l := []api.Graph{example(), wrong(), graph(1), graph(32), line(32), full()}
	for range small {
		l = append(l, aGraph(&seed, 5, 7))
	}
	for range larger {
		l = append(l, aGraph(&seed, 12, 18))
	}
	return l
}

// sameGraph reports whether two graphs are equal.
func sameGraph(g, h api.Graph) bool { return g.Nodes == h.Nodes && slices.Equal(g.Ties, h.Ties) }

// clone returns g in memory of its own.
func clone(g api.Graph) api.Graph { return graph(g.Nodes, slices.Clone(g.Ties)...) }

// picked returns g with the ties alone that are so.
func picked(g api.Graph, isSo func(i int, t api.Tie) bool) api.Graph {
	h := graph(g.Nodes)
	for i, t := range g.Ties {
		if isSo(i, t) {
			h.Ties = append(h.Ties, t)
		}
	}
	return h
}

// but returns g without the tie with an index.
func but(g api.Graph, index int) api.Graph {
	return picked(g, func(i int, _ api.Tie) bool { return i != index })
}

const far = 1000 // how long a walk is that is not there

// lengths is how many ties the shortest walks have from each node to each other one: chains, and walks with one cut.
type lengths struct {
	chain, why [api.MaxNodes][api.MaxNodes]int
}

// lengthsOf returns these, going through the nodes by which a walk can come.
func lengthsOf(g api.Graph) *lengths {
	var l lengths
	for a := range g.Nodes {
		for b := range g.Nodes {
			l.chain[a][b], l.why[a][b] = far, far
		}
		l.chain[a][a] = 0
	}
	for _, t := range g.Ties {
		if t.Kind == api.TogetherT {
			l.chain[t.A][t.B], l.chain[t.B][t.A] = 1, 1
		}
	}
	for by := range g.Nodes {
		for a := range g.Nodes {
			for b := range g.Nodes {
				l.chain[a][b] = min(l.chain[a][b], l.chain[a][by]+l.chain[by][b])
			}
		}
	}
	for _, t := range g.Ties {
		if t.Kind == api.ApartT {
			for a := range g.Nodes {
				for b := range g.Nodes {
					l.why[a][b] = min(l.why[a][b], l.chain[a][t.A]+1+l.chain[t.B][b], l.chain[a][t.B]+1+l.chain[t.A][b])
				}
			}
		}
	}
	return &l
}

func (l *lengths) joined(a, b int) bool { return l.chain[a][b] < far }

func (l *lengths) apart(a, b int) bool { return l.why[a][b] < far }

func (l *lengths) told(a, b int) bool { return l.joined(a, b) || l.apart(a, b) }

// contradicts reports whether two nodes of g are joined and kept apart.
func contradicts(g api.Graph) bool {
	l := lengthsOf(g)
	for a := range g.Nodes {
		for b := range g.Nodes {
			if l.joined(a, b) && l.apart(a, b) {
				return true
			}
		}
	}
	return false
}

// isWalk reports whether l is a walk from a to b with so many cuts, read off the words of the chapter.
func isWalk(g api.Graph, a, b int, l []int, cuts int) bool {
	if len(l) == 0 {
		return a == b && cuts == 0
	}
	if l[0] < 0 || l[0] >= len(g.Ties) {
		return false
	}
	t := g.Ties[l[0]]
	if t.Kind == api.ApartT {
		cuts--
	}
	return t.A == a && isWalk(g, t.B, b, l[1:], cuts) || t.B == a && isWalk(g, t.A, b, l[1:], cuts)
}

// isClash reports whether l is a list of ties that contradict each other, and of which each is needed.
func isClash(g api.Graph, l []int) bool {
	for i, n := range l {
		if n < 0 || n >= len(g.Ties) || i > 0 && n <= l[i-1] {
			return false
		}
	}
	alone := picked(g, func(i int, _ api.Tie) bool { return slices.Contains(l, i) })
	for i := range alone.Ties {
		if contradicts(but(alone, i)) {
			return false
		}
	}
	return contradicts(alone)
}

// lists calls each with all lists of at most so many numbers from lo to hi.
func lists(lo, hi, most int, each func(l []int)) {
	var longer func(l []int)
	longer = func(l []int) {
		each(l)
		for n := lo; n <= hi && len(l) < most; n++ {
			longer(append(slices.Clone(l), n))
		}
	}
	longer(nil)
}

// ask calls one of the functions that tell of two nodes, which has no error.
func ask[R any](t testing.TB, f func(g api.Graph, a, b int) (R, api.Errno), g api.Graph, a, b int) R {
	t.Helper()
	r, err := f(g, a, b)
	if err != api.OK {
		t.Fatal(g, a, b, err)
	}
	return r
}

// same and apart report what the package tells of two nodes.

func same(t testing.TB, g api.Graph, a, b int) bool { t.Helper(); return ask(t, ties.Same, g, a, b) }

func apart(t testing.TB, g api.Graph, a, b int) bool { t.Helper(); return ask(t, ties.Apart, g, a, b) }
