package parts

import (
	"bonehouse/api"
	"bonehouse/count"
	"bonehouse/ties"
)

// set is some groups of a graph: the bit n stands for the group n.
type set uint16

// one returns the set of one group.
func one(group int) set { return 1 << group }

// grouped is a valid graph by its groups, which are numbered by their least nodes.
type grouped struct {
	of    []int              // for each node its group
	graph api.Graph          // the groups as its nodes; its ties are cuts
	apart [api.MaxParted]set // for each group those from which it is kept apart
	most  int                // how many people there can be, at most
}

// open returns a graph by its groups, for any number of people.
func open(g api.Graph) (grouped, api.Errno) {
	quotient, of, err := ties.Quotient(g)
	if err != api.OK {
		return grouped{}, err
	}
	if quotient.Nodes > api.MaxParted {
		return grouped{}, api.ErrLimit
	}
	x := grouped{of: of, graph: quotient, most: quotient.Nodes}
	for _, t := range quotient.Ties {
		x.apart[t.A] |= one(t.B)
		x.apart[t.B] |= one(t.A)
	}
	return x, api.OK
}

// limit sets how many people there can be at most, 0 for any number; ErrArg unless a graph can have so many, and these are nodes.
func (x *grouped) limit(most int, nodes ...int) api.Errno {
	if !isFromTo(most, 0, api.MaxNodes) {
		return api.ErrArg
	}
	for _, n := range nodes {
		if !isFromTo(n, 0, len(x.of)-1) {
			return api.ErrArg
		}
	}
	if most > 0 {
		x.most = most
	}
	return api.OK
}

// openFor returns a graph by its groups, for at most so many people; ErrArg unless it is asked for nodes that it has.
func openFor(g api.Graph, most int, nodes ...int) (grouped, api.Errno) {
	x, err := open(g)
	if err != api.OK {
		return grouped{}, err
	}
	if err := x.limit(most, nodes...); err != api.OK {
		return grouped{}, err
	}
	return x, api.OK
}

// openWith is openFor with a partition; ErrParts unless it is one of the nodes, in its normal form.
func openWith(g api.Graph, most int, l []int) (grouped, api.Errno) {
	x, err := openFor(g, most)
	if err != api.OK {
		return grouped{}, err
	}
	if len(l) != len(x.of) || !isPartition(l) {
		return grouped{}, api.ErrParts
	}
	return x, api.OK
}

// openSome is openFor; ErrNone if no partition is allowed.
func openSome(g api.Graph, most int, nodes ...int) (grouped, api.Errno) {
	x, err := openFor(g, most, nodes...)
	if err != api.OK {
		return grouped{}, err
	}
	if some, _ := count.Fits(x.graph, x.most); !some {
		return grouped{}, api.ErrNone
	}
	return x, api.OK
}

// areJoined reports whether two nodes are joined.
func (x *grouped) areJoined(a, b int) bool { return x.of[a] == x.of[b] }

// areApart reports whether two nodes are kept apart.
func (x *grouped) areApart(a, b int) bool { return x.apart[x.of[a]]&one(x.of[b]) != 0 }

// allows reports whether a partition in its normal form is allowed.
func (x *grouped) allows(l []int) bool {
	for b := range l {
		for a := range b {
			if l[a] != l[b] && x.areJoined(a, b) || l[a] == l[b] && x.areApart(a, b) {
				return false
			}
		}
	}
	return people(l) <= x.most
}

// Allowed reports whether g allows a partition into at most so many people.
func Allowed(g api.Graph, most int, l []int) (bool, api.Errno) {
	x, err := openWith(g, most, l)
	if err != api.OK {
		return false, err
	}
	return x.allows(l), api.OK
}

// further returns a further tie.
func further(a, b, kind int) api.Tie { return api.Tie{A: a, B: b, Kind: kind, Strength: 1} }
