package parts

import (
	"slices"

	"bonehouse/api"
	"bonehouse/ties"
)

// checkBoth returns ErrParts unless a and b are partitions of as many nodes, in their normal form.
func checkBoth(a, b []int) api.Errno {
	if !isPartition(a) || !isPartition(b) || len(a) != len(b) {
		return api.ErrParts
	}
	return api.OK
}

// meet returns the normal form of the partition whose nodes are of one person if they are so in both.
func meet(a, b []int) []int {
	pairs := make([][2]int, len(a))
	for n := range pairs {
		pairs[n] = [2]int{a[n], b[n]}
	}
	return normal(pairs)
}

// Finer reports whether each person of a lies within one of b.
func Finer(a, b []int) (bool, api.Errno) {
	if err := checkBoth(a, b); err != api.OK {
		return false, err
	}
	return slices.Equal(meet(a, b), a), api.OK
}

// Meet returns the coarsest partition that is finer than both.
func Meet(a, b []int) ([]int, api.Errno) {
	if err := checkBoth(a, b); err != api.OK {
		return nil, err
	}
	return meet(a, b), api.OK
}

// Join returns the finest partition that is coarser than both.
func Join(a, b []int) ([]int, api.Errno) {
	if err := checkBoth(a, b); err != api.OK {
		return nil, err
	}
	g := api.Graph{Nodes: len(a)}
	for _, l := range [][]int{a, b} {
		for n, person := range l {
			if first := slices.Index(l, person); first < n {
				g.Ties = append(g.Ties, further(first, n, api.TogetherT))
			}
		}
	}
	groups, err := ties.Groups(g)
	return normal(groups), err
}
