package bits

import (
	mathbits "math/bits"
	"slices"

	"bonehouse/api"
)

const maxSets = 16 // sets by which another one is covered, or which are hit

// Cover returns the places of sets of l that together are s, no two of them with a common number, and whether there are such: the least list of places. ErrLimit if l has more than 16 sets.
func Cover(s api.Set, l []api.Set) ([]int, bool, api.Errno) {
	if len(l) > maxSets {
		return nil, false, api.ErrLimit
	}
	var places []int
	var cover func(rest api.Set, from int) bool
	cover = func(rest api.Set, from int) bool {
		if rest == (api.Set{}) {
			return true
		}
		for i := from; i < len(l); i++ {
			if l[i] == (api.Set{}) || !Within(l[i], rest) {
				continue
			}
			places = append(places, i)
			if cover(Minus(rest, l[i]), i+1) {
				return true
			}
			places = places[:len(places)-1]
		}
		return false
	}
	if !cover(s, 0) {
		return nil, false, api.OK
	}
	return places, true, api.OK
}

// Hit returns the set that meets each set of l, and whether there is one: of those of least size the least one. ErrLimit if l has more than 16 sets.
func Hit(l []api.Set) (api.Set, bool, api.Errno) {
	if len(l) > maxSets {
		return api.Set{}, false, api.ErrLimit
	}
	if slices.Contains(l, api.Set{}) {
		return api.Set{}, false, api.OK
	}
	has := holders(l)
	all := 1<<len(l) - 1 // the sets that are left to hit are a bit each
	best := make([]api.Set, all+1)
	known := make([]bool, all+1)
	known[0] = true
	var hit func(left int) api.Set
	hit = func(left int) api.Set {
		if known[left] {
			return best[left]
		}
		// One number of the first set that is left is needed, and what hits the others best goes with it.
		for n := range All(l[mathbits.TrailingZeros(uint(left))]) {
			s, _ := With(hit(left&^has[n]), n)
			if !known[left] || isBetter(s, best[left]) {
				best[left], known[left] = s, true
			}
		}
		return best[left]
	}
	return hit(all), true, api.OK
}

// holders returns, for each number, which sets of l have it, a bit for each of them.
func holders(l []api.Set) [api.MaxMember + 1]int {
	var has [api.MaxMember + 1]int
	for i, s := range l {
		for n := range All(s) {
			has[n] |= 1 << i
		}
	}
	return has
}

// isBetter reports whether a is smaller than b, or of its size and less.
func isBetter(a, b api.Set) bool {
	if x, y := Size(a), Size(b); x != y {
		return x < y
	}
	return Compare(a, b) < 0
}
