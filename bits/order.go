package bits

import "bonehouse/api"

const maxChoose = 62 // with more numbers a count of subsets need not fit into an int

// Choose returns how many subsets of k of n numbers there are; ErrArg unless n is from 0 to 62.
func Choose(n, k int) (int, api.Errno) {
	if n < 0 || n > maxChoose {
		return 0, api.ErrArg
	}
	return choose(n, k), api.OK
}

// choose is Choose for an n from 0 to 62.
func choose(n, k int) int {
	if k < 0 || k > n {
		return 0
	}
	count := uint64(1)
	for i := range k {
		// The product stays below 2^64 (though not below 2^63) for all n up to 62, and the division is exact.
		count = count * uint64(n-i) / uint64(i+1)
	}
	return int(count)
}

// Rank returns the place of s among the subsets of the numbers from 0 to 61 with as many numbers; ErrLimit if s has others.
func Rank(s api.Set) (int, api.Errno) {
	if _, is := Next(s, maxChoose-1); is {
		return 0, api.ErrLimit
	}
	place, k := 0, 0
	for n := range All(s) {
		k++
		place += choose(n, k) // the sets with the same numbers above n, and k others that are all less than n
	}
	return place, api.OK
}

// Unrank returns the subset of k numbers from 0 to 61 at a place; ErrArg if there is none.
func Unrank(k, place int) (api.Set, api.Errno) {
	if place < 0 || place >= choose(maxChoose, k) { // for a k that is not from 0 to 62 there are 0 places
		return api.Set{}, api.ErrArg
	}
	var s api.Set
	for n := maxChoose - 1; k > 0; n-- {
		if lesser := choose(n, k); place >= lesser {
			s, _ = With(s, n)
			place -= lesser
			k--
		}
	}
	return s, api.OK
}

// After returns the least of the greater sets with as many numbers, and whether there is one.
func After(s api.Set) (api.Set, bool) {
	first, is := Next(s, -1)
	last := first
	for Has(s, last+1) {
		last++
	}
	if !is || last == api.MaxMember {
		return api.Set{}, false
	}
	// The last number of the lowest run goes up by one, and the others of this run go down as far as they can.
	for n := first; n <= last; n++ {
		s = Without(s, n)
	}
	for n := range last - first {
		s, _ = With(s, n)
	}
	s, _ = With(s, last+1)
	return s, true
}
