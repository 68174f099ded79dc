package vault

import (
	"slices"

	"bonehouse/api"
	"bonehouse/finds"
	"bonehouse/rules"
	"bonehouse/ties"
)

// ground is what questions about the finds go by: the finds that stand are the nodes of graphs.
type ground struct {
	*view
	finds []api.Find
	nodes map[int]int // what is known so far: for each find its node, none if it has none
}

const none = -1 // instead of a node

// ground returns what questions go by; ErrNone if there are no finds, ErrLimit if there are more than a graph has nodes.
func (v *view) ground() (ground, api.Errno) {
	l := v.standing()
	if len(l) == 0 {
		return ground{}, api.ErrNone
	}
	if len(l) > api.MaxNodes {
		return ground{}, api.ErrLimit
	}
	return ground{view: v, finds: l, nodes: map[int]int{}}, api.OK
}

// node returns the node of the find with a number.
func (x *ground) node(find int) int {
	node, is := x.nodes[find]
	if !is {
		node = none
		if whole, err := finds.Whole(x.register, find, x.day); err == api.OK {
			node = slices.IndexFunc(x.finds, func(f api.Find) bool { return f.No == whole })
		}
		x.nodes[find] = node
	}
	return node
}

// allNodes returns the nodes of the finds that a question names; ErrNone unless all of these have nodes.
func (x *ground) allNodes(l []int) ([]int, api.Errno) {
	var nodes []int
	for _, find := range l {
		nodes = append(nodes, x.node(find))
	}
	if slices.Contains(nodes, none) {
		return nil, api.ErrNone
	}
	return nodes, api.OK
}

// whole returns the graph of what the rules and the reviewed ties say; ErrLimit if it would have too many ties.
func (x *ground) whole() (api.Graph, api.Errno) {
	l, err := rules.Ties(x.code, x.finds, x.day, x.day)
	if err != api.OK {
		return api.Graph{}, err
	}
	for _, t := range x.reviewed() {
		t.A, t.B = x.node(t.A), x.node(t.B)
		if t.A != none && t.B != none && t.A != t.B {
			l = append(l, t)
		}
	}
	if len(l) > api.MaxTies {
		return api.Graph{}, api.ErrLimit
	}
	return api.Graph{Nodes: len(x.finds), Ties: l}, api.OK
}

// graph returns the graph that counts: with the ties alone that are strong enough to be true all together.
func (x *ground) graph() (api.Graph, api.Errno) {
	g, err := x.whole()
	if err != api.OK {
		return api.Graph{}, err
	}
	strength, _ := ties.Soundest(g)
	return ties.Strong(g, strength)
}
