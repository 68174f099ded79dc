package parts

import (
	"slices"

	"bonehouse/api"
	"bonehouse/count"
	"bonehouse/ties"
)

// witness returns an allowed partition with two groups of one person, or of different people, as a tie of this kind says it, and whether there is one.
func (x *grouped) witness(a, b, kind int) ([]int, bool) {
	g := x.graph
	if a != b {
		g, _ = ties.Add(g, further(a, b, kind))
	} else if kind == api.ApartT {
		return nil, false
	}
	fewest, err := count.Parted(g)
	if err != api.OK || people(fewest) > x.most { // an error: the groups are kept apart
		return nil, false
	}
	l := make([]int, len(x.of))
	for n, group := range x.of {
		l[n] = fewest[group]
	}
	return l, true
}

// relation tells how two groups are related. Some partition is allowed.
func (x *grouped) relation(a, b int) int {
	if _, is := x.witness(a, b, api.TogetherT); !is {
		return api.NeverP
	}
	if _, is := x.witness(a, b, api.ApartT); !is {
		return api.SurelyP
	}
	return api.PossibleP
}

// Relation tells whether two nodes are surely, possibly or never of one person.
func Relation(g api.Graph, most, a, b int) (int, api.Errno) {
	x, err := openSome(g, most, a, b)
	if err != api.OK {
		return 0, err
	}
	return x.relation(x.of[a], x.of[b]), api.OK
}

// Together returns an allowed partition that puts two nodes together, and whether there is one.
func Together(g api.Graph, most, a, b int) ([]int, bool, api.Errno) {
	return find(g, most, a, b, api.TogetherT)
}

// Separate returns one that keeps them apart, and whether there is one.
func Separate(g api.Graph, most, a, b int) ([]int, bool, api.Errno) {
	return find(g, most, a, b, api.ApartT)
}

// find returns an allowed partition that has two nodes as a tie of this kind says it, and whether there is one.
func find(g api.Graph, most, a, b, kind int) ([]int, bool, api.Errno) {
	x, err := openFor(g, most, a, b)
	if err != api.OK {
		return nil, false, err
	}
	l, is := x.witness(x.of[a], x.of[b], kind)
	return l, is, api.OK
}

// sure returns the pairs of nodes that are surely of one person, and those that never are. Some partition is allowed.
func (x *grouped) sure() (same, never [][2]int) {
	var known [api.MaxParted][api.MaxParted]int // nodes are related as their groups are, which are not asked again
	for a, group := range x.of {
		for b := a + 1; b < len(x.of); b++ {
			relation := &known[group][x.of[b]]
			if *relation == 0 {
				*relation = x.relation(group, x.of[b])
			}
			switch *relation {
			case api.SurelyP:
				same = append(same, [2]int{a, b})
			case api.NeverP:
				never = append(never, [2]int{a, b})
			}
		}
	}
	return same, never
}

// Sure returns the pairs that are surely of one person, and those that never are.
func Sure(g api.Graph, most int) ([][2]int, [][2]int, api.Errno) {
	x, err := openSome(g, most)
	if err != api.OK {
		return nil, nil, err
	}
	same, never := x.sure()
	return same, never, api.OK
}

// Closed returns g with ties for all of these.
func Closed(g api.Graph, most int) (api.Graph, api.Errno) {
	x, err := openSome(g, most)
	if err != api.OK {
		return api.Graph{}, err
	}
	same, never := x.sure()
	l := slices.Clone(g.Ties)
	for _, p := range same {
		if !x.areJoined(p[0], p[1]) {
			l = append(l, further(p[0], p[1], api.TogetherT))
		}
	}
	for _, p := range never {
		if !x.areApart(p[0], p[1]) {
			l = append(l, further(p[0], p[1], api.ApartT))
		}
	}
	if len(l) > api.MaxTies {
		return api.Graph{}, api.ErrLimit
	}
	return api.Graph{Nodes: g.Nodes, Ties: l}, api.OK
}

// Sizes returns the least and the greatest number of nodes of the person of a node.
func Sizes(g api.Graph, most, node int) (api.Span, api.Errno) {
	x, err := openSome(g, most, node)
	if err != api.OK {
		return api.Span{}, err
	}
	sizes := make([]int, x.graph.Nodes) // of the groups
	for _, group := range x.of {
		sizes[group]++
	}
	span := api.Span{Lo: g.Nodes}
	for w := range x.all() {
		size := 0
		for group, nodes := range sizes {
			if w.person[group] == w.person[x.of[node]] {
				size += nodes
			}
		}
		span.Lo, span.Hi = min(span.Lo, size), max(span.Hi, size)
	}
	return span, api.OK
}
