package bits_test

import (
	"slices"
	"testing"

	"bonehouse/api"
	"bonehouse/bits"
)

// P1.5: Cover, by its examples and edge cases.
func TestCover(t *testing.T) {
	apart := make([]api.Set, 16)
	for i := range apart {
		apart[i] = of(t, i, i+100)
	}
	for i, x := range []struct {
		s    api.Set
		l    []api.Set
		want []int
		is   bool
	}{
		{of(t, 1, 2, 3), []api.Set{of(t, 1, 2), of(t, 3), of(t, 2, 3), of(t, 1)}, []int{0, 1}, true},
		{of(t, 1, 2, 3), []api.Set{of(t, 1), of(t, 1, 2), of(t, 2, 3)}, []int{0, 2}, true},
		{of(t, 1, 2, 3), []api.Set{of(t, 1, 2), of(t, 2, 3)}, nil, false},
		{of(t, 1), []api.Set{of(t, 1), of(t, 1)}, []int{0}, true},
		{of(t, 1), []api.Set{of(t, 2)}, nil, false},
		{of(t, 1), []api.Set{of(t, 1, 2)}, nil, false},
		{of(t, 1, 2), []api.Set{of(t, 1), of(t, 2), of(t, 1, 2)}, []int{0, 1}, true}, // a longer list can be less
		{of(t, 1), nil, nil, false},
		{api.Set{}, nil, nil, true},
		{api.Set{}, []api.Set{{}, {}}, nil, true},
		{api.Set{}, []api.Set{of(t, 1)}, nil, true},
		{of(t, 200), []api.Set{{}, of(t, 200), {}}, []int{1}, true}, // an empty set is not in a cover
		{of(t, 0, 100, 15, 115), apart, []int{0, 15}, true},
		{of(t, 0, 100, 15), apart, nil, false},
	} {
		if l, is, err := bits.Cover(x.s, x.l); !slices.Equal(l, x.want) || is != x.is || err != api.OK {
			t.Error(i, l, is, err)
		}
	}
}

// P1.5: Hit, by its examples and edge cases.
func TestHit(t *testing.T) {
	apart := make([]api.Set, 16)
	all := api.Set{}
	for i := range apart {
		apart[i] = of(t, 16*i+3, 16*i+15)
		all, _ = bits.With(all, 16*i+3)
	}
	for i, x := range []struct {
		l    []api.Set
		want api.Set
		is   bool
	}{
		{nil, api.Set{}, true},
		{[]api.Set{{}}, api.Set{}, false},
		{[]api.Set{of(t, 1), {}}, api.Set{}, false},
		{[]api.Set{of(t, 1, 2), of(t, 2, 3), of(t, 5)}, of(t, 2, 5), true},
		{[]api.Set{of(t, 7, 9), of(t, 9, 200), of(t, 7, 200)}, of(t, 7, 9), true},
		{[]api.Set{of(t, 250, 251)}, of(t, 250), true},
		{[]api.Set{of(t, 0, 255), of(t, 1, 255)}, of(t, 255), true}, // size comes first
		{[]api.Set{of(t, 0, 255), of(t, 1, 200)}, of(t, 0, 1), true},
		{[]api.Set{of(t, 0, 5), of(t, 0, 5), of(t, 0, 5)}, of(t, 0), true},
		{[]api.Set{of(t, 0, 4), of(t, 1, 3), of(t, 0, 2), of(t, 2, 4)}, of(t, 0, 1, 2), true},
		{apart, all, true},
		{[]api.Set{full(), full()}, of(t, 0), true},
	} {
		if s, is, err := bits.Hit(x.l); s != x.want || is != x.is || err != api.OK {
			t.Error(i, s, is, err)
		}
	}
}

// P1.5: more than 16 sets are too many.
func TestTooManySets(t *testing.T) {
	for n, want := range map[int]api.Errno{15: api.OK, 16: api.OK, 17: api.ErrLimit, 100: api.ErrLimit} {
		l := make([]api.Set, n)
		for i := range l {
			l[i] = of(t, 1)
		}
		if places, is, err := bits.Cover(of(t, 1), l); err != want || is != (want == api.OK) || err != api.OK && len(places) > 0 {
			t.Error(n, places, is, err)
		}
		if s, is, err := bits.Hit(l); err != want || is != (want == api.OK) || err != api.OK && s != (api.Set{}) {
			t.Error(n, s, is, err)
		}
		if _, is, err := bits.Cover(api.Set{}, make([]api.Set, n)); err != want || is != (want == api.OK) {
			t.Error(n, is, err)
		}
		if _, is, err := bits.Hit(make([]api.Set, n)); err != want || is {
			t.Error(n, is, err)
		}
	}
}

// P1.5: the sets stay as they are, and places are new memory (rule R2).
func TestCoverIsNewMemory(t *testing.T) {
	l := []api.Set{of(t, 1), of(t, 2), of(t, 1, 2)}
	given := slices.Clone(l)
	first, _, _ := bits.Cover(of(t, 1, 2), l)
	first[0] = 7
	second, _, _ := bits.Cover(of(t, 1, 2), l)
	bits.Hit(l)
	if !slices.Equal(l, given) || !slices.Equal(second, []int{0, 1}) {
		t.Error(l, second)
	}
}

// leastCover returns the least cover, of all lists of places.
func leastCover(s api.Set, l []api.Set) ([]int, bool) {
	var least []int
	found := false
	for mask := range 1 << len(l) {
		var places []int
		var union api.Set
		good := true
		for i := range l {
			if mask>>i&1 == 1 {
				good = good && l[i] != api.Set{} && !bits.Meets(union, l[i])
				union = bits.Union(union, l[i])
				places = append(places, i)
			}
		}
		if good && union == s && (!found || slices.Compare(places, least) < 0) {
			least, found = places, true
		}
	}
	return least, found
}

// leastHit returns the least set of least size that meets all, of all sets of the numbers there are.
func leastHit(l []api.Set, numbers []int) (api.Set, bool) {
	var least api.Set
	found := false
	for mask := range 1 << len(numbers) {
		var s api.Set
		for i, n := range numbers {
			if mask>>i&1 == 1 {
				s, _ = bits.With(s, n)
			}
		}
		good := !slices.ContainsFunc(l, func(x api.Set) bool { return !bits.Meets(s, x) })
		if !good || found && bits.Size(s) > bits.Size(least) {
			continue
		}
		if !found || bits.Size(s) < bits.Size(least) || bits.Compare(s, least) < 0 {
			least, found = s, true
		}
	}
	return least, found
}

// some returns count sets of some of the numbers, each of which is in one of odds of them.
func some(x *noise, numbers []int, count, odds int) []api.Set {
	l := make([]api.Set, count)
	for i := range l {
		for _, n := range numbers {
			if x.below(odds) == 0 {
				l[i], _ = bits.With(l[i], n)
			}
		}
	}
	return l
}

// P1.12: no cover is less, and there is none where Cover returns none.
func TestCoverIsExact(t *testing.T) {
	x := noise(3)
	numbers := []int{0, 1, 63, 64, 130, 255}
	covered := 0
	for range 2000 {
		l := some(&x, numbers, x.below(11), 3+x.below(3))
		s := some(&x, numbers, 1, 2)[0]
		want, found := leastCover(s, l)
		places, is, err := bits.Cover(s, l)
		if !slices.Equal(places, want) || is != found || err != api.OK {
			t.Fatal(s, l, places, is, err)
		}
		if len(places) > 1 {
			covered++
		}
	}
	if covered < 100 {
		t.Error("too few covers of several sets:", covered)
	}
}

// P1.12: nothing smaller meets all, nor anything of the same size that is less.
func TestHitIsExact(t *testing.T) {
	x := noise(4)
	numbers := []int{0, 1, 2, 62, 63, 64, 128, 200, 255}
	large := 0
	for range 1500 {
		l := some(&x, numbers, x.below(17), 2+x.below(4))
		if x.below(3) > 0 { // most of the lists without an empty set
			l = slices.DeleteFunc(l, func(s api.Set) bool { return s == api.Set{} })
		}
		want, found := leastHit(l, numbers)
		s, is, err := bits.Hit(l)
		if s != want || is != found || err != api.OK {
			t.Fatal(l, s, is, err)
		}
		if bits.Size(s) > 3 {
			large++
		}
	}
	if large < 100 {
		t.Error("too few sets of more than 3 numbers:", large)
	}
}

// P1.12: 16 large sets are hit as well, and by no less than by each of them left out.
func TestHitOfLargeSets(t *testing.T) {
	x := noise(5)
	numbers := make([]int, 256)
	for n := range numbers {
		numbers[n] = n
	}
	for _, odds := range []int{2, 4, 16, 64} {
		l := some(&x, numbers, 16, odds)
		s, is, err := bits.Hit(l)
		if slices.Contains(l, api.Set{}) != !is || err != api.OK {
			t.Fatal(odds, s, is, err)
		}
		for _, n := range bits.Members(s) {
			alone := func(r api.Set) bool { return !bits.Meets(r, bits.Without(s, n)) }
			if i := slices.IndexFunc(l, alone); i < 0 || !bits.Has(l[i], n) {
				t.Error(odds, s, n)
			}
		}
	}
}
