package bits_test

import (
	"math"
	"math/big"
	"slices"
	"testing"

	"bonehouse/api"
	"bonehouse/bits"
)

// of returns the set of numbers.
func of(t testing.TB, l ...int) api.Set {
	t.Helper()
	s, err := bits.Of(l...)
	if err != api.OK {
		t.Fatal(l, err)
	}
	return s
}

// noise is a row of numbers that is the same in each run.
type noise uint64

func (x *noise) next() uint64 {
	*x += 0x9e3779b97f4a7c15
	z := uint64(*x)
	z = (z ^ z>>30) * 0xbf58476d1ce4e5b9
	z = (z ^ z>>27) * 0x94d049bb133111eb
	return z ^ z>>31
}

// below returns a number from 0 to n - 1.
func (x *noise) below(n int) int { return int(x.next() % uint64(n)) }

// sets returns edge cases, and further sets: dense and thin ones, and ones of a few runs.
func sets(t testing.TB) []api.Set {
	full := api.Set{math.MaxUint64, math.MaxUint64, math.MaxUint64, math.MaxUint64}
	l := []api.Set{
		{}, full, of(t, 0), of(t, 255), of(t, 0, 255), of(t, 254, 255), of(t, 63), of(t, 64), of(t, 63, 64),
		of(t, 127, 128), of(t, 191, 192, 255), of(t, 0, 1, 2, 255), {math.MaxUint64}, {0, 0, 0, math.MaxUint64},
		{0, math.MaxUint64, math.MaxUint64}, {0x5555555555555555, 0x5555555555555555, 0x5555555555555555, 0x5555555555555555},
	}
	x := noise(1)
	for range 12 {
		l = append(l, api.Set{x.next(), x.next(), x.next(), x.next()})
		l = append(l, api.Set{x.next() & x.next() & x.next() & x.next(), 0, x.next() & x.next() & x.next(), 0})
		var s api.Set
		for range 4 {
			first := x.below(256)
			for n := first; n < min(first+1+x.below(90), 256); n++ {
				s[n/64] |= 1 << (n % 64)
			}
		}
		l = append(l, s)
	}
	return l
}

// table returns s as a table, by the meaning of api.Set alone.
func table(s api.Set) [256]bool {
	var l [256]bool
	for n := range l {
		l[n] = s[n/64]&(1<<(n%64)) != 0
	}
	return l
}

// big256 returns the number of 256 bits that s is.
func big256(s api.Set) *big.Int {
	x := new(big.Int)
	for i := 3; i >= 0; i-- {
		x.Lsh(x, 64)
		x.Or(x, new(big.Int).SetUint64(s[i]))
	}
	return x
}

// P1.1: the examples of the chapter, and what is not from 0 to 255.
func TestNumbersExamples(t *testing.T) {
	if s, err := bits.Of(255, 0, 0); s != (api.Set{1, 0, 0, 1 << 63}) || err != api.OK {
		t.Error(s, err)
	}
	if s, err := bits.Of(); s != (api.Set{}) || err != api.OK {
		t.Error(s, err)
	}
	s := of(t, 3, 70)
	for _, x := range []struct {
		n, want int
		is      bool
	}{{3, 70, true}, {70, 0, false}, {-9, 3, true}, {-1, 3, true}, {2, 3, true}, {69, 70, true}, {255, 0, false}, {256, 0, false}, {math.MaxInt, 0, false}, {math.MinInt, 3, true}} {
		if n, is := bits.Next(s, x.n); n != x.want || is != x.is {
			t.Error(x, n, is)
		}
	}
	for _, n := range []int{-1, 256, -64, 319, math.MaxInt, math.MinInt} {
		if s, err := bits.Of(n); s != (api.Set{}) || err != api.ErrArg {
			t.Error(n, s, err)
		}
		if s, err := bits.Of(3, n, 4); s != (api.Set{}) || err != api.ErrArg {
			t.Error(n, s, err)
		}
		if s, err := bits.With(s, n); s != (api.Set{}) || err != api.ErrArg {
			t.Error(n, s, err)
		}
		full := api.Set{math.MaxUint64, math.MaxUint64, math.MaxUint64, math.MaxUint64}
		if bits.Has(full, n) || bits.Without(full, n) != full {
			t.Error(n)
		}
	}
}

// P1.1: each of the functions for each number, and the numbers in order.
func TestNumbersOfAll(t *testing.T) {
	for _, s := range sets(t) {
		var want []int
		next, more := 0, false
		for n := 255; n >= -2; n-- {
			if x, is := bits.Next(s, n); x != next || is != more {
				t.Fatal(s, n, x, is)
			}
			if n < 0 {
				continue
			}
			if table(s)[n] {
				want = append(want, n)
				next, more = n, true
			}
			if bits.Has(s, n) != table(s)[n] {
				t.Fatal(s, n)
			}
			with, err := bits.With(s, n)
			in := table(s)
			if in[n] = true; err != api.OK || table(with) != in {
				t.Fatal(s, n, with, err)
			}
			if in[n] = false; table(bits.Without(s, n)) != in {
				t.Fatal(s, n)
			}
		}
		slices.Reverse(want)
		if l := bits.Members(s); !slices.Equal(l, want) {
			t.Fatal(s, l)
		}
		if l := slices.Collect(bits.All(s)); !slices.Equal(l, want) {
			t.Fatal(s, l)
		}
	}
}

// P1.1: All stops when no more numbers are taken, and begins anew each time.
func TestAllIsTakenInPart(t *testing.T) {
	all := bits.All(of(t, 5, 64, 200))
	for range 2 {
		var l []int
		for n := range all {
			l = append(l, n)
			if n == 64 {
				break
			}
		}
		if !slices.Equal(l, []int{5, 64}) {
			t.Error(l)
		}
	}
	for n := range bits.All(api.Set{}) {
		t.Error(n)
	}
}

// P1.1: arguments stay as they are, and results are new memory (rule R2).
func TestNumbersAreNewMemory(t *testing.T) {
	l := []int{9, 3, 9}
	s := of(t, l...)
	if !slices.Equal(l, []int{9, 3, 9}) {
		t.Error(l)
	}
	l[0] = 200
	bits.Members(s)[0] = 100
	bits.With(s, 1)
	bits.Without(s, 3)
	if !slices.Equal(bits.Members(s), []int{3, 9}) {
		t.Error(s)
	}
}

// P1.2: the example of the chapter, and sets that say most by themselves.
func TestSetsExamples(t *testing.T) {
	a, b := of(t, 1, 2, 100), of(t, 2, 100, 254)
	if bits.Union(a, b) != of(t, 1, 2, 100, 254) || bits.Common(a, b) != of(t, 2, 100) || bits.Minus(a, b) != of(t, 1) || bits.Minus(b, a) != of(t, 254) {
		t.Error("Union, Common, Minus")
	}
	if !bits.Meets(a, b) || bits.Meets(a, of(t, 3)) || bits.Meets(api.Set{}, api.Set{}) {
		t.Error("Meets")
	}
	if bits.Within(a, b) || !bits.Within(of(t, 2), a) || bits.Within(a, of(t, 2)) || !bits.Within(api.Set{}, api.Set{}) || !bits.Within(a, a) {
		t.Error("Within")
	}
	if bits.Size(api.Set{}) != 0 || bits.Size(a) != 3 || bits.Size(bits.Minus(api.Set{}, a)) != 0 {
		t.Error("Size")
	}
	if n := bits.Compare(of(t, 200), of(t, 0, 1, 199)); n != 1 {
		t.Error(n)
	}
	if n := bits.Compare(of(t, 0, 1, 199), of(t, 200)); n != -1 {
		t.Error(n)
	}
	if n := bits.Compare(of(t, 1), of(t, 1)); n != 0 {
		t.Error(n)
	}
	if n := bits.Compare(of(t, 63, 255), of(t, 0, 255)); n != 1 { // above the bit 63 as well
		t.Error(n)
	}
}

// P1.2: each of the functions, number by number.
func TestSetsOfAll(t *testing.T) {
	for _, a := range sets(t) {
		for _, b := range sets(t) {
			x, y := table(a), table(b)
			union, common, minus := table(bits.Union(a, b)), table(bits.Common(a, b)), table(bits.Minus(a, b))
			size, within, meets := 0, true, false
			for n := range x {
				if union[n] != (x[n] || y[n]) || common[n] != (x[n] && y[n]) || minus[n] != (x[n] && !y[n]) {
					t.Fatal(a, b, n)
				}
				if x[n] {
					size++
					within = within && y[n]
					meets = meets || y[n]
				}
			}
			if bits.Size(a) != size || bits.Within(a, b) != within || bits.Meets(a, b) != meets {
				t.Fatal(a, b)
			}
			if bits.Compare(a, b) != big256(a).Cmp(big256(b)) {
				t.Fatal(a, b)
			}
		}
	}
}

// P1.7: the laws of Union, Common and Size.
func TestLattice(t *testing.T) {
	l := sets(t)
	for _, a := range l {
		for _, b := range l {
			if bits.Union(a, b) != bits.Union(b, a) || bits.Common(a, b) != bits.Common(b, a) {
				t.Fatal(a, b)
			}
			if bits.Union(bits.Common(a, b), bits.Minus(a, b)) != a || bits.Meets(bits.Common(a, b), bits.Minus(a, b)) {
				t.Fatal(a, b)
			}
			if bits.Size(bits.Union(a, b))+bits.Size(bits.Common(a, b)) != bits.Size(a)+bits.Size(b) {
				t.Fatal(a, b)
			}
			for _, c := range l {
				if bits.Union(a, bits.Union(b, c)) != bits.Union(bits.Union(a, b), c) || bits.Common(a, bits.Common(b, c)) != bits.Common(bits.Common(a, b), c) {
					t.Fatal(a, b, c)
				}
				if bits.Common(a, bits.Union(b, c)) != bits.Union(bits.Common(a, b), bits.Common(a, c)) || bits.Union(a, bits.Common(b, c)) != bits.Common(bits.Union(a, b), bits.Union(a, c)) {
					t.Fatal(a, b, c)
				}
			}
		}
	}
}

// P1.7: Within is an order that Union and Common are the bounds of; Compare is a total one, and agrees with it.
func TestOrders(t *testing.T) {
	l := sets(t)
	for i, s := range l[:len(l)-1] { // so that there are more sets that are within others
		l = append(l, bits.Union(s, l[i+1]), bits.Common(s, l[i+1]))
	}
	for _, a := range l {
		for _, b := range l {
			if (bits.Within(a, b) && bits.Within(b, a)) != (a == b) {
				t.Fatal(a, b)
			}
			if bits.Within(a, b) != (bits.Union(a, b) == b) || bits.Within(a, b) != (bits.Common(a, b) == a) {
				t.Fatal(a, b)
			}
			if bits.Compare(a, b) != -bits.Compare(b, a) || (bits.Compare(a, b) == 0) != (a == b) {
				t.Fatal(a, b)
			}
			if bits.Within(a, b) && bits.Compare(a, b) > 0 {
				t.Fatal(a, b)
			}
			for _, c := range l {
				if bits.Within(a, b) && bits.Within(b, c) && !bits.Within(a, c) {
					t.Fatal(a, b, c)
				}
				if bits.Within(a, c) && bits.Within(b, c) != bits.Within(bits.Union(a, b), c) {
					t.Fatal(a, b, c)
				}
				if bits.Within(c, a) && bits.Within(c, b) != bits.Within(c, bits.Common(a, b)) {
					t.Fatal(a, b, c)
				}
				if bits.Compare(a, b) <= 0 && bits.Compare(b, c) <= 0 && bits.Compare(a, c) > 0 {
					t.Fatal(a, b, c)
				}
			}
		}
	}
}

// P1.8: a set is that of its members, and Next goes through them.
func TestMembers(t *testing.T) {
	for _, s := range sets(t) {
		l := bits.Members(s)
		if of(t, l...) != s || len(l) != bits.Size(s) {
			t.Fatal(s, l)
		}
		at := -1
		for i, n := range l {
			if i > 0 && l[i-1] >= n {
				t.Fatal(s, l)
			}
			next, is := bits.Next(s, at)
			if next != n || !is {
				t.Fatal(s, at, next, is)
			}
			at = next
		}
		if n, is := bits.Next(s, at); n != 0 || is {
			t.Fatal(s, at, n, is)
		}
	}
}
