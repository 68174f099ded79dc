package count

import (
	"iter"
	"math/bits"
)

const maxGroups = 16 // groups of a graph whose people are counted

// set is some groups of a graph: the bit n stands for the group n.
type set uint16

// one returns the set of one group.
func one(group int) set { return 1 << group }

// has reports whether a group is in s.
func (s set) has(group int) bool { return s&one(group) != 0 }

// size returns how many groups s has.
func (s set) size() int { return bits.OnesCount16(uint16(s)) }

// first returns the least group of s; maxGroups if it has none.
func (s set) first() int { return bits.TrailingZeros16(uint16(s)) }

// all yields the groups of s, in increasing order.
func (s set) all() iter.Seq[int] {
	return func(yield func(int) bool) {
		for rest := s; rest != 0; rest &= rest - 1 {
			if !yield(rest.first()) {
				return
			}
		}
	}
}

// state is a case of a graph: what follows from its ties and from some additional ones. Of the groups that are joined with each other the least one stands for all.
type state struct {
	stand set            // the groups that stand for some
	by    [maxGroups]int // for each group the one that stands for it
	apart [maxGroups]set // for each group that stands, those from which it is kept apart: itself if the case contradicts itself there
}

// single returns the case of so many groups without ties.
func single(groups int) state {
	var c state
	for n := range groups {
		c.stand |= one(n)
		c.by[n] = n
	}
	return c
}

// isApart reports whether two groups are kept apart.
func (c *state) isApart(a, b int) bool { return c.apart[c.by[a]].has(c.by[b]) }

// isContradiction reports whether two groups are joined and kept apart.
func (c *state) isContradiction() bool {
	for group := range c.stand.all() {
		if c.isApart(group, group) {
			return true
		}
	}
	return false
}

// parted returns the case with two groups kept apart.
func (c state) parted(a, b int) state {
	a, b = c.by[a], c.by[b]
	c.apart[a] |= one(b)
	c.apart[b] |= one(a)
	return c
}

// joined returns the case with two groups joined.
func (c state) joined(a, b int) state {
	first, other := min(c.by[a], c.by[b]), max(c.by[a], c.by[b])
	if first == other {
		return c
	}
	c.stand &^= one(other)
	c.apart[first] |= c.apart[other]
	for group := range c.by {
		if c.by[group] == other {
			c.by[group] = first
		}
		if c.apart[group].has(other) {
			c.apart[group] = c.apart[group]&^one(other) | one(first)
		}
	}
	return c
}

// clique returns as many as possible of some groups that stand, of which each two are kept apart. The case does not contradict itself.
func (c *state) clique(some set) set {
	if some == 0 {
		return 0
	}
	first := some.first()
	near := some & c.apart[first]
	with := one(first) | c.clique(near)
	rest := some &^ one(first)
	// Without the first group a clique is only greater if it has one that is not kept apart from it.
	if rest == near {
		return with
	}
	if without := c.clique(rest); without.size() > with.size() {
		return without
	}
	return with
}
