package ties

import (
	"slices"

	"bonehouse/api"
)

// How many cuts the walks have that are certificates.
const (
	chainCuts = 0 // that two nodes are joined
	whyCuts   = 1 // that they are kept apart
)

// link is a tie as a walk comes by.
type link api.Tie

// other returns the node of the tie other than the given one, and whether the given one is a node of the tie.
func (t link) other(node int) (int, bool) {
	switch node {
	case t.A:
		return t.B, true
	case t.B:
		return t.A, true
	}
	return 0, false
}

// place is where a walk has come to: a node, behind so many cuts.
type place struct{ node, cuts int }

// way is what leads a walk over a tie.
type way struct {
	other func(node int) (int, bool)
	cuts  int
}

// ways returns, for each tie, what leads over it.
func (w work) ways() []way {
	l := make([]way, len(w.Ties))
	for i, t := range w.Ties {
		l[i].other = link(t).other
		if isCut(t) {
			l[i].cuts = 1
		}
	}
	return l
}

// next returns the place behind a place, and whether the tie leads on from there.
func (x way) next(from place) (place, bool) {
	node, is := x.other(from.node)
	return place{node: node, cuts: from.cuts + x.cuts}, is
}

// leads reports whether l is a walk from a to b with so many cuts.
func (w work) leads(l []int, a, b, cuts int) bool {
	ways, at := w.ways(), place{node: a}
	for _, i := range l {
		if !isFromTo(i, 0, len(ways)-1) {
			return false
		}
		next, is := ways[i].next(at)
		if !is {
			return false
		}
		at = next
	}
	return at == place{node: b, cuts: cuts}
}

// step is how a search came to a place first: over a tie, from another place.
type step struct {
	tie  int
	from place
	done bool
}

// steps has, for each place to which a search came, how it did.
type steps [api.MaxNodes][whyCuts + 1]step

// shortest returns a walk from a to b with so many cuts and as few ties as possible, and whether there is one.
func (w work) shortest(a, b, cuts int) ([]int, bool) {
	first, last := place{node: a}, place{node: b, cuts: cuts}
	ways, queue := w.ways(), []place{first}
	var came steps
	came[first.node][first.cuts].done = true
search:
	for len(queue) > 0 {
		here := queue[0]
		queue = queue[1:]
		for i, x := range ways {
			next, is := x.next(here)
			if !is || next.cuts > cuts || came[next.node][next.cuts].done {
				continue
			}
			came[next.node][next.cuts] = step{tie: i, from: here, done: true}
			if next == last {
				break search
			}
			queue = append(queue, next)
		}
	}
	if !came[last.node][last.cuts].done {
		return nil, false
	}
	return came.back(first, last), true
}

// back returns the ties over which a search came from one place to another one.
func (s *steps) back(first, last place) []int {
	var l []int
	for at := last; at != first; {
		x := s[at.node][at.cuts]
		l = append(l, x.tie)
		at = x.from
	}
	slices.Reverse(l)
	return l
}

// Chain returns ties that join two nodes, as few as possible, and whether there are such.
func Chain(g api.Graph, a, b int) ([]int, bool, api.Errno) { return walk(g, a, b, chainCuts) }

// Why returns ties that keep two nodes apart, as few as possible, and whether there are such.
func Why(g api.Graph, a, b int) ([]int, bool, api.Errno) { return walk(g, a, b, whyCuts) }

// walk is Chain, or Why.
func walk(g api.Graph, a, b, cuts int) ([]int, bool, api.Errno) {
	if err := checkPair(g, a, b); err != api.OK {
		return nil, false, err
	}
	l, is := begin(g).shortest(a, b, cuts)
	return l, is, api.OK
}

// CheckChain returns ErrChain unless these ties join two nodes.
func CheckChain(g api.Graph, a, b int, l []int) api.Errno { return checkWalk(g, a, b, l, chainCuts) }

// CheckWhy returns ErrChain unless these ties keep two nodes apart.
func CheckWhy(g api.Graph, a, b int, l []int) api.Errno { return checkWalk(g, a, b, l, whyCuts) }

// checkWalk is CheckChain, or CheckWhy.
func checkWalk(g api.Graph, a, b int, l []int, cuts int) api.Errno {
	if err := checkPair(g, a, b); err != api.OK {
		return err
	}
	if !begin(g).leads(l, a, b, cuts) {
		return api.ErrChain
	}
	return api.OK
}

// Clash returns ties that contradict each other, none of which can be left out, and whether there are such.
func Clash(g api.Graph) ([]int, bool, api.Errno) {
	if err := Check(g); err != api.OK {
		return nil, false, err
	}
	w := begin(g)
	cut := w.wrongCut()
	if cut < 0 {
		return nil, false, api.OK
	}
	// A shortest chain comes to no node twice, so that each of its ties is needed.
	chain, _ := w.shortest(w.Ties[cut].A, w.Ties[cut].B, chainCuts)
	l := append(chain, cut)
	slices.Sort(l)
	return l, true, api.OK
}

// CheckClash returns ErrChain unless these ties contradict each other, and all without one do not.
func CheckClash(g api.Graph, l []int) api.Errno {
	if err := Check(g); err != api.OK {
		return err
	}
	alone, last := api.Graph{Nodes: g.Nodes}, -1
	for _, i := range l {
		if !isFromTo(i, last+1, len(g.Ties)-1) {
			return api.ErrChain
		}
		alone.Ties = append(alone.Ties, g.Ties[i])
		last = i
	}
	if !contradicts(alone) {
		return api.ErrChain
	}
	for i := range alone.Ties {
		if contradicts(leftOut(alone, i)) {
			return api.ErrChain
		}
	}
	return api.OK
}
