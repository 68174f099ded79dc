package count

import (
	"cmp"
	"slices"

	"bonehouse/api"
)

// people has, for each person, the groups of this person; those without groups come last.
type people [maxGroups]set

// room returns the first person, from a given one on, to whom a group can go, and whether there is one among so many people.
func (l *people) room(c *state, group, from, most int) (int, bool) {
	for person, groups := range l {
		if person == most {
			break
		}
		if person >= from && groups&c.apart[group] == 0 {
			return person, true
		}
		// Further people without groups are as this one.
		if groups == 0 {
			break
		}
	}
	return 0, false
}

// hardest returns, of some groups, one that is kept apart from the most people, and of these from the most groups.
func (l *people) hardest(c *state, some set) int {
	hardest, most := 0, -1
	for group := range some.all() {
		hard := c.apart[group].size()
		for _, groups := range l {
			if groups&c.apart[group] != 0 {
				hard += maxGroups
			}
		}
		if hard > most {
			hardest, most = group, hard
		}
	}
	return hardest
}

// place is that a group went to a person.
type place struct{ group, person int }

// fit returns at most so many people for some groups that stand, and whether there are such.
func (c *state) fit(some set, most int) (people, bool) {
	var l people
	var path []place
	from := 0
search:
	for some != 0 {
		group := l.hardest(c, some)
		if person, is := l.room(c, group, from, most); is {
			l[person] |= one(group)
			some &^= one(group)
			path = append(path, place{group, person})
			from = 0
			continue search
		}
		if len(path) == 0 {
			break search
		}
		// The people are then as they were when this group was the hardest one, so that it is found again.
		last := path[len(path)-1]
		path = path[:len(path)-1]
		l[last.person] &^= one(last.group)
		some |= one(last.group)
		from = last.person + 1
	}
	return l, some == 0
}

// fewest returns as few people as possible for all groups, and how many they are.
func (c *state) fewest() (people, int) {
	for most := c.clique(c.stand).size(); ; most++ {
		if l, is := c.fit(c.stand, most); is {
			return l, most
		}
	}
}

// partition returns the partition of the nodes into people, in its normal form.
func (x *grouped) partition(l people) []int {
	// As the groups are numbered by their least nodes, those people come first whose first groups do.
	slices.SortFunc(l[:], func(s, t set) int { return cmp.Compare(s.first(), t.first()) })
	persons := make([]int, len(x.of))
	for n, group := range x.of {
		persons[n] = slices.IndexFunc(l[:], func(s set) bool { return s.has(group) })
	}
	return persons
}

// Parted returns a partition of the nodes into as few people as possible: for each node its person.
func Parted(g api.Graph) ([]int, api.Errno) {
	x, err := open(g)
	if err != api.OK {
		return nil, err
	}
	l, _ := x.begin.fewest()
	return x.partition(l), api.OK
}

// CheckParted returns ErrParts unless the partition is allowed.
func CheckParted(g api.Graph, l []int) api.Errno {
	x, err := open(g)
	if err != api.OK {
		return err
	}
	if len(l) != len(x.of) || !isNormal(l) || !x.allows(l) {
		return api.ErrParts
	}
	return api.OK
}

// isNormal reports whether the people of a partition are numbered in the order of their first nodes.
func isNormal(l []int) bool {
	next := 0
	for _, person := range l {
		if !isFromTo(person, 0, next) {
			return false
		}
		if person == next {
			next++
		}
	}
	return true
}

// allows reports whether joined nodes are of one person, and nodes that are kept apart of different people.
func (x *grouped) allows(l []int) bool {
	for n, group := range x.of {
		for m, other := range x.of[:n] {
			if l[n] != l[m] && group == other || l[n] == l[m] && x.begin.isApart(group, other) {
				return false
			}
		}
	}
	return true
}

// Least returns the least number of people.
func Least(g api.Graph) (int, api.Errno) {
	x, err := open(g)
	if err != api.OK {
		return 0, err
	}
	_, least := x.begin.fewest()
	return least, api.OK
}

// Fits reports whether there can be at most so many people.
func Fits(g api.Graph, people int) (bool, api.Errno) {
	x, err := openFor(g, people)
	if err != api.OK {
		return false, err
	}
	_, is := x.begin.fit(x.begin.stand, people)
	return is, api.OK
}

// Sharp reports whether the greatest clique has as many nodes as there are people at least.
func Sharp(g api.Graph) (bool, api.Errno) {
	x, err := open(g)
	if err != api.OK {
		return false, err
	}
	_, is := x.begin.fit(x.begin.stand, x.begin.clique(x.begin.stand).size())
	return is, api.OK
}

// Greedy returns a partition by an order of the nodes, each of which goes to the first person with whom it can be.
func Greedy(g api.Graph, order []int) ([]int, api.Errno) {
	x, err := open(g)
	if err != api.OK {
		return nil, err
	}
	if !x.isOrder(order) {
		return nil, api.ErrArg
	}
	var l people
	for _, n := range order {
		// A group that has a person finds this one again: those before have not become emptier.
		person, _ := l.room(&x.begin, x.of[n], 0, maxGroups)
		l[person] |= one(x.of[n])
	}
	return x.partition(l), api.OK
}

// isOrder reports whether l has each node once.
func (x *grouped) isOrder(l []int) bool {
	var seen [api.MaxNodes]bool
	for _, n := range l {
		if !x.isNode(n) || seen[n] {
			return false
		}
		seen[n] = true
	}
	return len(l) == len(x.of)
}
