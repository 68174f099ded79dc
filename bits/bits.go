// Package bits works with sets of numbers, and with subsets in order. See shared/doc/01-bits.md.
package bits

import (
	"iter"
	mathbits "math/bits"
	"slices"

	"bonehouse/api"
)

const wordSize = 64 // numbers for which an element of a set stands

// isMember reports whether a set can have the number n.
func isMember(n int) bool { return n >= 0 && n <= api.MaxMember }

// Of returns the set of numbers; ErrArg unless each is from 0 to 255.
func Of(l ...int) (api.Set, api.Errno) {
	var s api.Set
	for _, n := range l {
		var err api.Errno
		if s, err = With(s, n); err != api.OK {
			return api.Set{}, err
		}
	}
	return s, api.OK
}

// Members returns the numbers of s, in increasing order.
func Members(s api.Set) []int { return slices.Collect(All(s)) }

// All yields the numbers of s, in increasing order.
func All(s api.Set) iter.Seq[int] {
	return func(yield func(int) bool) {
		for n, is := Next(s, -1); is; n, is = Next(s, n) {
			if !yield(n) {
				return
			}
		}
	}
}

// Has reports whether n is in s.
func Has(s api.Set, n int) bool {
	return isMember(n) && s[n/wordSize]>>(n%wordSize)&1 == 1
}

// With returns s with n; ErrArg unless n is from 0 to 255.
func With(s api.Set, n int) (api.Set, api.Errno) {
	if !isMember(n) {
		return api.Set{}, api.ErrArg
	}
	s[n/wordSize] |= 1 << (n % wordSize)
	return s, api.OK
}

// Without returns s without n.
func Without(s api.Set, n int) api.Set {
	if isMember(n) {
		s[n/wordSize] &^= 1 << (n % wordSize)
	}
	return s
}

// Next returns the least number of s above n, and whether there is one.
func Next(s api.Set, n int) (int, bool) {
	if n >= api.MaxMember {
		return 0, false
	}
	from := max(n, -1) + 1
	i := from / wordSize
	word := s[i] >> (from % wordSize) << (from % wordSize)
	for word == 0 {
		i++
		if i == len(s) {
			return 0, false
		}
		word = s[i]
	}
	return i*wordSize + mathbits.TrailingZeros64(word), true
}

// Union returns what is in a or b, or in both.
func Union(a, b api.Set) api.Set {
	for i := range a {
		a[i] |= b[i]
	}
	return a
}

// Common returns what is in both.
func Common(a, b api.Set) api.Set {
	for i := range a {
		a[i] &= b[i]
	}
	return a
}

// Minus returns what is in a and not in b.
func Minus(a, b api.Set) api.Set {
	for i := range a {
		a[i] &^= b[i]
	}
	return a
}

// Size returns how many numbers s has.
func Size(s api.Set) int {
	size := 0
	for _, word := range s {
		size += mathbits.OnesCount64(word)
	}
	return size
}

// Within reports whether all of a is in b.
func Within(a, b api.Set) bool { return Minus(a, b) == api.Set{} }

// Meets reports whether a and b have a common number.
func Meets(a, b api.Set) bool { return Common(a, b) != api.Set{} }

// Compare returns -1 if a is less than b, 1 if it is greater, and 0 if they are equal, as numbers of 256 bits.
func Compare(a, b api.Set) int {
	for i := len(a) - 1; i >= 0; i-- {
		if a[i] < b[i] {
			return -1
		}
		if a[i] > b[i] {
			return 1
		}
	}
	return 0
}
