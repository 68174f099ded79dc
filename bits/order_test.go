package bits_test

import (
	"math"
	"math/big"
	"testing"

	"bonehouse/api"
	"bonehouse/bits"
)

// P1.3: Choose, by its examples and by another way to count.
func TestChoose(t *testing.T) {
	for _, x := range [][3]int{{5, 2, 10}, {62, 3, 37820}, {5, 6, 0}, {5, -1, 0}, {0, 0, 1}, {0, 1, 0}, {62, 62, 1}, {62, 63, 0}, {62, 31, 465428353255261088}, {5, math.MaxInt, 0}, {5, math.MinInt, 0}} {
		if n, err := bits.Choose(x[0], x[1]); n != x[2] || err != api.OK {
			t.Error(x, n, err)
		}
	}
	for n := range 63 {
		for k := range n + 1 {
			want := new(big.Int).Binomial(int64(n), int64(k)).Int64()
			if x, err := bits.Choose(n, k); int64(x) != want || err != api.OK {
				t.Error(n, k, x, err)
			}
		}
	}
	for _, n := range []int{-1, 63, 1 << 40, math.MaxInt, math.MinInt} {
		for _, k := range []int{-1, 0, 1, 63, 64} {
			if x, err := bits.Choose(n, k); x != 0 || err != api.ErrArg {
				t.Error(n, k, x, err)
			}
		}
	}
}

// P1.3: Rank and Unrank, by their examples and the first sets of two numbers.
func TestRank(t *testing.T) {
	for place, s := range []api.Set{of(t, 0, 1), of(t, 0, 2), of(t, 1, 2), of(t, 0, 3), of(t, 1, 3), of(t, 2, 3), of(t, 0, 4)} {
		if n, err := bits.Rank(s); n != place || err != api.OK {
			t.Error(place, n, err)
		}
		if x, err := bits.Unrank(2, place); x != s || err != api.OK {
			t.Error(place, x, err)
		}
	}
	if n, err := bits.Rank(of(t, 0, 1, 61)); n != 35990 || err != api.OK {
		t.Error(n, err)
	}
	if n, err := bits.Rank(api.Set{}); n != 0 || err != api.OK {
		t.Error(n, err)
	}
	if n, err := bits.Rank(api.Set{1<<62 - 1}); n != 0 || err != api.OK {
		t.Error(n, err)
	}
	if s, err := bits.Unrank(0, 0); s != (api.Set{}) || err != api.OK {
		t.Error(s, err)
	}
	if s, err := bits.Unrank(62, 0); s != (api.Set{1<<62 - 1}) || err != api.OK {
		t.Error(s, err)
	}
	if s, err := bits.Unrank(2, 1890); s != of(t, 60, 61) || err != api.OK {
		t.Error(s, err)
	}
}

// P1.3: what Rank and Unrank do not take.
func TestRankOfOthers(t *testing.T) {
	for _, s := range []api.Set{of(t, 62), of(t, 63), of(t, 0, 64), of(t, 0, 1, 255), {0, 1}, {0, 0, 1}, {0, 0, 0, 1}} {
		if n, err := bits.Rank(s); n != 0 || err != api.ErrLimit {
			t.Error(s, n, err)
		}
	}
	for _, x := range [][2]int{{-1, 0}, {63, 0}, {2, -1}, {2, 1891}, {0, 1}, {0, -1}, {62, 1}, {31, 465428353255261088}, {math.MinInt, 0}, {math.MaxInt, 0}, {2, math.MinInt}, {2, math.MaxInt}} {
		if s, err := bits.Unrank(x[0], x[1]); s != (api.Set{}) || err != api.ErrArg {
			t.Error(x, s, err)
		}
	}
}

// P1.3: Rank counts the lesser sets of the same size, one by one.
func TestRankCounts(t *testing.T) {
	for a := range uint64(1 << 9) {
		lesser := 0
		for b := range a {
			if bits.Size(api.Set{a}) == bits.Size(api.Set{b}) {
				lesser++
			}
		}
		if n, err := bits.Rank(api.Set{a}); n != lesser || err != api.OK {
			t.Fatal(a, n, err)
		}
	}
}

// P1.4: the examples, and sets at the ends.
func TestAfter(t *testing.T) {
	for i, x := range []struct {
		s, want api.Set
		is      bool
	}{
		{of(t, 0, 3), of(t, 1, 3), true},
		{of(t, 1, 3), of(t, 2, 3), true},
		{of(t, 2, 3), of(t, 0, 4), true},
		{of(t, 0, 255), of(t, 1, 255), true},
		{of(t, 253, 255), of(t, 254, 255), true},
		{of(t, 253, 254), of(t, 0, 255), true},
		{of(t, 61, 62, 63), of(t, 0, 1, 64), true},
		{of(t, 4, 5, 9), of(t, 0, 6, 9), true},
		{of(t, 254), of(t, 255), true},
		{of(t, 254, 255), api.Set{}, false},
		{of(t, 255), api.Set{}, false},
		{api.Set{}, api.Set{}, false},
		{bits.Minus(full(), of(t, 0)), api.Set{}, false},
		{bits.Minus(full(), of(t, 255)), bits.Minus(full(), of(t, 254)), true},
		{full(), api.Set{}, false},
	} {
		if s, is := bits.After(x.s); s != x.want || is != x.is {
			t.Error(i, s, is)
		}
	}
}

// full returns the set of all numbers.
func full() api.Set {
	return api.Set{math.MaxUint64, math.MaxUint64, math.MaxUint64, math.MaxUint64}
}

// after is After, worked out with numbers of 256 bits.
func after(s api.Set) (*big.Int, bool) {
	x := big256(s)
	if x.Sign() == 0 {
		return nil, false
	}
	low := new(big.Int).And(x, new(big.Int).Neg(x))
	sum := new(big.Int).Add(x, low)
	if sum.BitLen() > 256 {
		return nil, false
	}
	rest := new(big.Int).Xor(sum, x)
	rest.Rsh(rest, 2).Quo(rest, low)
	return sum.Or(sum, rest), true
}

// P1.4: After, by another way to get there.
func TestAfterOfAll(t *testing.T) {
	for _, s := range sets(t) {
		for range 50 {
			want, more := after(s)
			next, is := bits.After(s)
			if is != more || more && big256(next).Cmp(want) != 0 || !is && next != (api.Set{}) {
				t.Fatal(s, next, is)
			}
			if !is {
				break
			}
			s = next
		}
	}
}

// P1.9: Pascal's triangle, its symmetry, and its rows.
func TestPascal(t *testing.T) {
	choose := func(n, k int) int {
		x, err := bits.Choose(n, k)
		if err != api.OK {
			t.Fatal(n, k, err)
		}
		return x
	}
	for n := range 63 {
		sum := 0
		for k := -2; k <= n+2; k++ {
			if n > 0 && choose(n, k) != choose(n-1, k-1)+choose(n-1, k) {
				t.Error(n, k)
			}
			if choose(n, k) != choose(n, n-k) {
				t.Error(n, k)
			}
			sum += choose(n, k)
		}
		if sum != 1<<n {
			t.Error(n, sum)
		}
	}
}

// P1.10: Rank and Unrank undo each other, and keep the order.
func TestPlaces(t *testing.T) {
	x := noise(2)
	for k := range 63 {
		count, _ := bits.Choose(62, k)
		places := []int{0, count - 1, count / 2, count / 3}
		for range 20 {
			places = append(places, int(x.next()%uint64(count)))
		}
		for _, a := range places {
			s, err := bits.Unrank(k, a)
			if bits.Size(s) != k || s[0]>>62 != 0 || err != api.OK {
				t.Fatal(k, a, s, err)
			}
			if place, err := bits.Rank(s); place != a || err != api.OK {
				t.Fatal(k, a, place, err)
			}
			for _, b := range places {
				r, _ := bits.Unrank(k, b)
				if (bits.Compare(s, r) > 0) != (a > b) {
					t.Fatal(k, a, b)
				}
			}
		}
	}
	for range 500 {
		s := api.Set{x.next() >> 2}
		place, err := bits.Rank(s)
		if r, err2 := bits.Unrank(bits.Size(s), place); r != s || err != api.OK || err2 != api.OK {
			t.Fatal(s, place, r, err, err2)
		}
	}
}

// P1.11: After goes through all sets of a size, place by place, and none of them comes between.
func TestStepByStep(t *testing.T) {
	for _, k := range []int{1, 2, 3, 59, 60, 61} {
		count, _ := bits.Choose(62, k)
		s, err := bits.Unrank(k, 0)
		if err != api.OK {
			t.Fatal(k, err)
		}
		for place := range count {
			if x, err := bits.Rank(s); x != place || err != api.OK {
				t.Fatal(k, place, x, err)
			}
			s, _ = bits.After(s)
		}
		if want := (api.Set{1<<(k-1) - 1 | 1<<62}); s != want {
			t.Fatal(k, s)
		}
	}
	for a := uint64(1); a < 1<<10; a++ {
		s, is := bits.After(api.Set{a})
		if !is || s[0] <= a || s != (api.Set{s[0]}) || bits.Size(s) != bits.Size(api.Set{a}) {
			t.Fatal(a, s, is)
		}
		for b := a + 1; b < s[0]; b++ {
			if bits.Size(api.Set{b}) == bits.Size(s) {
				t.Fatal(a, b, s)
			}
		}
	}
}

// P1.11: of two numbers from 0 to 255, and of all but two, there are as many sets as After goes through.
func TestStepsToTheEnd(t *testing.T) {
	for _, first := range []api.Set{of(t, 0, 1), bits.Minus(full(), of(t, 254, 255))} {
		steps, s := 1, first
		for next, is := bits.After(s); is; next, is = bits.After(s) {
			if bits.Compare(s, next) >= 0 || bits.Size(next) != bits.Size(first) {
				t.Fatal(s, next)
			}
			steps, s = steps+1, next
		}
		if steps != 256*255/2 {
			t.Error(steps)
		}
	}
}
