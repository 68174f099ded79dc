package ties

import (
	"cmp"
	"slices"

	"bonehouse/api"
)

// groups has, for each node, the least one of its group.
type groups []int

// single returns the groups of so many nodes without ties.
func single(nodes int) groups {
	l := make(groups, nodes)
	for n := range l {
		l[n] = n
	}
	return l
}

// unite makes one group of those of two nodes, and reports whether they were two.
func (l groups) unite(a, b int) bool {
	least, other := min(l[a], l[b]), max(l[a], l[b])
	for n, first := range l {
		if first == other {
			l[n] = least
		}
	}
	return least < other
}

// joined reports whether two nodes are of one group.
func (l groups) joined(a, b int) bool { return l[a] == l[b] }

// numbered returns how many groups there are, and, for each node, the number of its group: they are numbered from 0 on by their least nodes.
func (l groups) numbered() (int, []int) {
	count, numbers := 0, make([]int, len(l))
	for n, first := range l {
		if n == first {
			numbers[n] = count
			count++
		} else {
			numbers[n] = numbers[first]
		}
	}
	return count, numbers
}

// work is a graph in work: the given one, with its groups.
type work struct {
	api.Graph
	groups
}

// begin returns a valid graph in work.
func begin(g api.Graph) work {
	w := work{Graph: g, groups: single(g.Nodes)}
	for _, t := range w.Ties {
		if isJoin(t) {
			w.unite(t.A, t.B)
		}
	}
	return w
}

// apart reports whether two nodes are kept apart.
func (w work) apart(a, b int) bool {
	return slices.ContainsFunc(w.Ties, func(t api.Tie) bool {
		return isCut(t) && (w.joined(t.A, a) && w.joined(t.B, b) || w.joined(t.A, b) && w.joined(t.B, a))
	})
}

// isTold reports whether two nodes are joined or kept apart.
func (w work) isTold(a, b int) bool { return w.joined(a, b) || w.apart(a, b) }

// wrongCut returns the index of the first cut between two nodes of one group; -1 if there is none: then the graph does not contradict itself.
func (w work) wrongCut() int {
	return slices.IndexFunc(w.Ties, func(t api.Tie) bool { return isCut(t) && w.joined(t.A, t.B) })
}

// contradicts reports whether a valid graph contradicts itself.
func contradicts(g api.Graph) bool { return begin(g).wrongCut() >= 0 }

// Groups returns, for each node, the least node of its group.
func Groups(g api.Graph) ([]int, api.Errno) {
	if err := Check(g); err != api.OK {
		return nil, err
	}
	return begin(g).groups, api.OK
}

// Same reports whether two nodes are joined.
func Same(g api.Graph, a, b int) (bool, api.Errno) {
	if err := checkPair(g, a, b); err != api.OK {
		return false, err
	}
	return begin(g).joined(a, b), api.OK
}

// Apart reports whether two nodes are kept apart.
func Apart(g api.Graph, a, b int) (bool, api.Errno) {
	if err := checkPair(g, a, b); err != api.OK {
		return false, err
	}
	return begin(g).apart(a, b), api.OK
}

// Quotient returns the graph of the groups, and for each node the number of its group; ErrClash if g contradicts itself.
func Quotient(g api.Graph) (api.Graph, []int, api.Errno) {
	if err := Check(g); err != api.OK {
		return api.Graph{}, nil, err
	}
	w := begin(g)
	if w.wrongCut() >= 0 {
		return api.Graph{}, nil, api.ErrClash
	}
	count, numbers := w.numbered()
	return api.Graph{Nodes: count, Ties: w.strongestCuts(numbers)}, numbers, api.OK
}

// strongestCuts returns, for each two groups with a cut of their nodes, a cut of their numbers: as strong as the strongest one, and from the source of the first one of these.
func (w work) strongestCuts(numbers []int) []api.Tie {
	var cuts []api.Tie
	for _, t := range w.Ties {
		if isCut(t) {
			a, b := numbers[t.A], numbers[t.B]
			t.A, t.B = min(a, b), max(a, b)
			cuts = append(cuts, t)
		}
	}
	// The sort is stable: of equally strong cuts of two groups the first one stays ahead.
	slices.SortStableFunc(cuts, func(s, t api.Tie) int {
		return cmp.Or(cmp.Compare(s.A, t.A), cmp.Compare(s.B, t.B), cmp.Compare(t.Strength, s.Strength))
	})
	return slices.CompactFunc(cuts, func(s, t api.Tie) bool { return s.A == t.A && s.B == t.B })
}
