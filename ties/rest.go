package ties

import (
	"cmp"
	"slices"
	"sort"

	"bonehouse/api"
)

const emptyStrength = api.MaxStrength + 1 // how strong the empty chain is; no tie is as strong

// Bridges returns the joins without which some nodes would not be joined, in increasing order.
func Bridges(g api.Graph) ([]int, api.Errno) {
	if err := Check(g); err != api.OK {
		return nil, err
	}
	var bridges []int
	before := single(g.Nodes)
	for i, t := range g.Ties {
		// A join of nodes that the joins before it have joined already is no bridge.
		if isJoin(t) && before.unite(t.A, t.B) && !begin(leftOut(g, i)).joined(t.A, t.B) {
			bridges = append(bridges, i)
		}
	}
	return bridges, api.OK
}

// Widest returns the greatest strength with which two nodes are joined: that of the weakest tie of the best chain; and whether there is a chain.
func Widest(g api.Graph, a, b int) (int, bool, api.Errno) {
	if err := checkPair(g, a, b); err != api.OK {
		return 0, false, err
	}
	if a == b {
		return emptyStrength, true, api.OK
	}
	joins := having(g, isJoin).Ties
	slices.SortFunc(joins, func(s, t api.Tie) int { return cmp.Compare(t.Strength, s.Strength) })
	so := single(g.Nodes)
	for _, t := range joins {
		so.unite(t.A, t.B)
		if so.joined(a, b) {
			return t.Strength, true, api.OK
		}
	}
	return 0, false, api.OK
}

// Soundest returns the least strength with which g does not contradict itself.
func Soundest(g api.Graph) (int, api.Errno) {
	if err := Check(g); err != api.OK {
		return 0, err
	}
	// With fewer ties a graph does not come to contradict itself, and without ties it does not.
	return 1 + sort.Search(api.MaxStrength, func(i int) bool { return !contradicts(strong(g, i+1)) }), api.OK
}

// Rests returns the sources on which it rests that two nodes are joined, or are kept apart, in increasing order: without each of them alone neither follows. ErrNone if neither does.
func Rests(g api.Graph, a, b int) ([]int, api.Errno) {
	if err := checkPair(g, a, b); err != api.OK {
		return nil, err
	}
	w := begin(g)
	// What it rests on comes up in each walk that tells it, and so in this one.
	l, is := w.shortest(a, b, chainCuts)
	if !is {
		l, is = w.shortest(a, b, whyCuts)
	}
	if !is {
		return nil, api.ErrNone
	}
	var sources []int
	for _, i := range l {
		if source := g.Ties[i].Source; !begin(without(g, source)).isTold(a, b) {
			sources = append(sources, source)
		}
	}
	slices.Sort(sources)
	return slices.Compact(sources), api.OK
}
