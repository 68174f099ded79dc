package parts

import (
	"iter"
	"slices"

	"bonehouse/api"
)

// way is how the first groups of a graph go to people.
type way struct {
	given  int                // how many groups
	people int                // how many people
	person [api.MaxParted]int // for each group its person
	groups [api.MaxParted]set // for each person its groups
}

// with returns w with the next group given to a person.
func (w way) with(person int) way {
	w.person[w.given] = person
	w.groups[person] |= one(w.given)
	w.people = max(w.people, person+1)
	w.given++
	return w
}

// list returns the people of the nodes as far as they are known: of all nodes ahead of the first one whose group has no person.
func (x *grouped) list(w *way) []int {
	var l []int
	for _, group := range x.of {
		if group >= w.given {
			break
		}
		l = append(l, w.person[group])
	}
	return l
}

// isAhead reports whether w makes a partition ahead of l, whoever the people of the further groups are.
func (x *grouped) isAhead(w *way, l []int) bool {
	known := x.list(w)
	return slices.Compare(known, l[:len(known)]) < 0
}

// ways yields the ways to give people to so many groups, in order: from the list from on, if there is one.
func (x *grouped) ways(groups int, from []int) iter.Seq[way] {
	return func(yield func(way) bool) {
		if groups == 0 {
			yield(way{})
			return
		}
	search:
		for w := range x.ways(groups-1, from) {
			for person := range min(w.people+1, x.most) {
				if w.groups[person]&x.apart[w.given] != 0 {
					continue
				}
				next := w.with(person)
				if from != nil && x.isAhead(&next, from) {
					continue
				}
				if !yield(next) {
					break search
				}
			}
		}
	}
}

// all yields the ways to give people to all groups, in the order of the partitions that these are.
func (x *grouped) all() iter.Seq[way] { return x.ways(x.graph.Nodes, nil) }

// All yields all allowed partitions into at most so many people, in order.
func All(g api.Graph, most int) (iter.Seq[[]int], api.Errno) {
	x, err := openFor(g, most)
	if err != api.OK {
		return func(func([]int) bool) {}, err
	}
	return func(yield func([]int) bool) {
		for w := range x.all() {
			if !yield(x.list(&w)) {
				return
			}
		}
	}, api.OK
}

// Count returns how many there are.
func Count(g api.Graph, most int) (int, api.Errno) {
	x, err := openFor(g, most)
	if err != api.OK {
		return 0, err
	}
	n := 0
	for range x.all() {
		n++
	}
	return n, api.OK
}

// By returns how many there are with each number of people, from 0 on.
func By(g api.Graph) ([]int, api.Errno) {
	x, err := open(g)
	if err != api.OK {
		return nil, err
	}
	l := make([]int, x.graph.Nodes+1)
	for w := range x.all() {
		l[w.people]++
	}
	return l, api.OK
}

// Next returns the next allowed partition behind l, and whether there is one.
func Next(g api.Graph, most int, l []int) ([]int, bool, api.Errno) {
	x, err := openWith(g, most, l)
	if err != api.OK {
		return nil, false, err
	}
	for w := range x.ways(x.graph.Nodes, l) {
		if next := x.list(&w); !slices.Equal(next, l) {
			return next, true, api.OK
		}
	}
	return nil, false, api.OK
}
