package parts_test

import (
	"math"
	"slices"
	"testing"

	"bonehouse/api"
	"bonehouse/parts"
)

// upTo returns the numbers from 0 to n - 1.
func upTo(n int) []int {
	var l []int
	for i := range n {
		l = append(l, i)
	}
	return l
}

// P6.1: lists that are partitions in their normal form, and lists that are not.
func TestCheckExamples(t *testing.T) {
	for i, x := range []struct {
		l   []int
		err api.Errno
	}{
		{nil, api.ErrParts}, {[]int{}, api.ErrParts}, {[]int{0}, api.OK}, {[]int{1}, api.ErrParts}, {[]int{-1}, api.ErrParts}, {[]int{0, 0}, api.OK}, {[]int{0, 1}, api.OK}, {[]int{0, 2}, api.ErrParts}, {[]int{1, 0}, api.ErrParts}, {[]int{0, -1}, api.ErrParts},
		{[]int{0, 1, 3}, api.ErrParts}, {[]int{0, 1, 0, 2}, api.OK}, {[]int{0, 1, 0, 3, 2}, api.ErrParts}, {[]int{0, math.MaxInt}, api.ErrParts}, {[]int{0, math.MinInt}, api.ErrParts}, {[]int{math.MinInt}, api.ErrParts},
		{make([]int, 32), api.OK}, {make([]int, 33), api.ErrParts}, {upTo(32), api.OK}, {upTo(33), api.ErrParts}, {append(upTo(31), 30), api.OK}, {append(upTo(31), 32), api.ErrParts}, {append(upTo(32), 0), api.ErrParts}, {make([]int, 1000), api.ErrParts},
	} {
		kept := slices.Clone(x.l)
		if err := parts.Check(x.l); err != x.err || !slices.Equal(x.l, kept) {
			t.Error(i, err)
		}
	}
}

// P6.1: Check, Normal, People and Person of all short lists, held against the chapter's words.
func TestForms(t *testing.T) {
	seen := map[api.Errno]int{}
	lists([]int{-1, 0, 1, 2, 3, 4}, 5, func(l []int) {
		want := api.ErrParts
		if isNormal(l) {
			want = api.OK
		}
		seen[want]++
		if err := parts.Check(l); err != want {
			t.Fatal(l, err)
		}
		checkNormal(t, l)
		checkPeople(t, l)
	})
	if seen[api.OK] != 1+2+5+15+52 || seen[api.ErrParts] < 1000 {
		t.Error(seen)
	}
}

// checkNormal holds the normal form of any list against its words.
func checkNormal(t *testing.T, l []int) {
	t.Helper()
	kept := slices.Clone(l)
	p, err := parts.Normal(l)
	if !slices.Equal(l, kept) {
		t.Fatal(kept, l)
	}
	if len(l) == 0 || len(l) > 32 {
		if len(p) > 0 || err != api.ErrArg {
			t.Fatal(l, p, err)
		}
		return
	}
	if err != api.OK || len(p) != len(l) || !isNormal(p) || parts.Check(p) != api.OK || isNormal(l) && !slices.Equal(p, l) {
		t.Fatal(l, p, err)
	}
	for a := range l {
		for b := range l {
			if (l[a] == l[b]) != (p[a] == p[b]) {
				t.Fatal(l, p)
			}
		}
	}
	p[0] = 7
	if !slices.Equal(l, kept) {
		t.Fatal(kept, l)
	}
}

// checkPeople holds People and Person of any list against their words.
func checkPeople(t *testing.T, l []int) {
	t.Helper()
	n, err := parts.People(l)
	if !isNormal(l) {
		if n != 0 || err != api.ErrParts {
			t.Fatal(l, n, err)
		}
		for _, person := range []int{-1, 0, 1, 40} {
			if nodes, err := parts.Person(l, person); len(nodes) > 0 || err != api.ErrParts {
				t.Fatal(l, person, nodes, err)
			}
		}
		return
	}
	if n != people(l) || err != api.OK {
		t.Fatal(l, n, err)
	}
	var all []int
	for person := range n {
		nodes, err := parts.Person(l, person)
		if err != api.OK || len(nodes) == 0 || !slices.IsSorted(nodes) {
			t.Fatal(l, person, nodes, err)
		}
		for _, m := range nodes {
			if l[m] != person {
				t.Fatal(l, person, nodes)
			}
		}
		all = append(all, nodes...)
	}
	slices.Sort(all)
	if !slices.Equal(all, upTo(len(l))) {
		t.Fatal(l, all)
	}
	for _, person := range []int{-1, n, n + 1, 32, math.MinInt, math.MaxInt} {
		if nodes, err := parts.Person(l, person); len(nodes) > 0 || err != api.ErrArg {
			t.Fatal(l, person, nodes, err)
		}
	}
}

// P6.1: the chapter's example, elements of any size, and as many as there can be.
func TestNormalExamples(t *testing.T) {
	for i, x := range []struct {
		l, want []int
		err     api.Errno
	}{
		{[]int{7, -1, 7}, []int{0, 1, 0}, api.OK}, {[]int{math.MinInt, math.MaxInt, 0, math.MinInt}, []int{0, 1, 2, 0}, api.OK}, {[]int{3, 2, 1, 0}, []int{0, 1, 2, 3}, api.OK}, {[]int{5}, []int{0}, api.OK}, {nil, nil, api.ErrArg}, {make([]int, 33), nil, api.ErrArg}, {make([]int, 32), make([]int, 32), api.OK},
	} {
		if l, err := parts.Normal(x.l); !slices.Equal(l, x.want) || err != x.err {
			t.Error(i, l, err)
		}
	}
	x := noise(1)
	for range 300 {
		l := make([]int, x.from(1, 34))
		for n := range l {
			l[n] = int(x.next()) % (1 + x.below(40))
		}
		checkNormal(t, l)
		checkPeople(t, l)
		checkPeople(t, aPartition(&x, x.from(1, 32), x.from(1, 32)))
	}
	checkPeople(t, upTo(32))
}
