package parts_test

import (
	"slices"
	"testing"

	"bonehouse/api"
	"bonehouse/parts"
)

// isFiner reports whether nodes that are of one person in a are so in b.
func isFiner(a, b []int) bool {
	for n := range a {
		for m := range a {
			if a[n] == a[m] && b[n] != b[m] {
				return false
			}
		}
	}
	return true
}

// chained returns which nodes a chain leads to from which ones, by neighbours of one person in a or in b.
func chained(a, b []int) [][]bool {
	near := make([][]bool, len(a))
	for n := range near {
		near[n] = make([]bool, len(a))
		for m := range near {
			near[n][m] = a[n] == a[m] || b[n] == b[m]
		}
	}
	for by := range near {
		for n := range near {
			for m := range near {
				near[n][m] = near[n][m] || near[n][by] && near[by][m]
			}
		}
	}
	return near
}

// finer, meet and join return what the package says of two partitions.

func finer(t testing.TB, a, b []int) bool { t.Helper(); return both(t, parts.Finer, a, b) }

func meet(t testing.TB, a, b []int) []int { t.Helper(); return both(t, parts.Meet, a, b) }

func joinOf(t testing.TB, a, b []int) []int { t.Helper(); return both(t, parts.Join, a, b) }

// both calls one of the functions of two partitions.
func both[R any](t testing.TB, f func(a, b []int) (R, api.Errno), a, b []int) R {
	t.Helper()
	c, d := slices.Clone(a), slices.Clone(b)
	r, err := f(a, b)
	if err != api.OK || !slices.Equal(a, c) || !slices.Equal(b, d) {
		t.Fatal(c, d, r, err)
	}
	return r
}

// checkBoth holds Finer, Meet and Join of two partitions against the chapter's words.
func checkBoth(t *testing.T, a, b []int) {
	t.Helper()
	if is := finer(t, a, b); is != isFiner(a, b) {
		t.Fatal(a, b, is)
	}
	m, j, near := meet(t, a, b), joinOf(t, a, b), chained(a, b)
	if len(m) != len(a) || len(j) != len(a) || !isNormal(m) || !isNormal(j) {
		t.Fatal(a, b, m, j)
	}
	for n := range a {
		for k := range a {
			if (m[n] == m[k]) != (a[n] == a[k] && b[n] == b[k]) || (j[n] == j[k]) != near[n][k] {
				t.Fatal(a, b, m, j)
			}
		}
	}
}

// P6.2: the chapter's examples, and others.
func TestLatticeExamples(t *testing.T) {
	for i, x := range []struct {
		a, b, meet, join []int
		is               bool
	}{
		{[]int{0, 0, 1}, []int{0, 1, 1}, []int{0, 1, 2}, []int{0, 0, 0}, false},
		{[]int{0, 1, 2}, []int{0, 0, 1}, []int{0, 1, 2}, []int{0, 0, 1}, true},
		{[]int{0, 0, 1}, []int{0, 1, 2}, []int{0, 1, 2}, []int{0, 0, 1}, false},
		{[]int{0, 0, 1}, []int{0, 0, 1}, []int{0, 0, 1}, []int{0, 0, 1}, true},
		{[]int{0}, []int{0}, []int{0}, []int{0}, true},
		{[]int{0, 0, 1, 1, 2, 2, 3}, []int{0, 1, 1, 2, 2, 3, 3}, []int{0, 1, 2, 3, 4, 5, 6}, []int{0, 0, 0, 0, 0, 0, 0}, false},
		{[]int{0, 1, 2, 2, 1, 0}, []int{0, 1, 2, 1, 2, 0}, []int{0, 1, 2, 3, 4, 0}, []int{0, 1, 1, 1, 1, 0}, false},
	} {
		if is := finer(t, x.a, x.b); is != x.is {
			t.Error(i, is)
		}
		if l := meet(t, x.a, x.b); !slices.Equal(l, x.meet) {
			t.Error(i, l)
		}
		if l := joinOf(t, x.a, x.b); !slices.Equal(l, x.join) {
			t.Error(i, l)
		}
	}
}

// P6.2: all two partitions of few nodes, and some of up to 32.
func TestLattice(t *testing.T) {
	for nodes := 1; nodes <= 5; nodes++ {
		for _, a := range partitions(nodes) {
			for _, b := range partitions(nodes) {
				checkBoth(t, a, b)
			}
		}
	}
	x := noise(3)
	is := 0
	for range 500 {
		nodes := x.from(6, 32)
		a, b := aPartition(&x, nodes, x.from(1, 32)), aPartition(&x, nodes, x.from(1, 32))
		checkBoth(t, a, b)
		m, j := meet(t, a, b), joinOf(t, a, b)
		checkBoth(t, m, a)
		checkBoth(t, b, j)
		if finer(t, m, b) && finer(t, a, j) && !finer(t, a, b) {
			is++
		}
	}
	if is < 300 {
		t.Error(is)
	}
	checkBoth(t, upTo(32), make([]int, 32))
	checkBoth(t, make([]int, 32), upTo(32))
	checkBoth(t, upTo(32), upTo(32))
}

// P6.2: lists that are no partitions in their normal form, or not of as many nodes.
func TestLatticeErrors(t *testing.T) {
	good := [][]int{{0}, {0, 0}, {0, 1}, {0, 1, 0}, make([]int, 32)}
	bad := [][]int{nil, {}, {1}, {0, 2}, {-1, 0}, {0, 1, 3}, {1, 1}, {1, 0}, make([]int, 33), upTo(33)}
	check := func(a, b []int, want api.Errno) {
		t.Helper()
		is, err := parts.Finer(a, b)
		l, wrong := parts.Meet(a, b)
		m, also := parts.Join(a, b)
		if err != want || wrong != want || also != want || want != api.OK && (is || len(l) > 0 || len(m) > 0) {
			t.Error(a, b, is, err, l, wrong, m, also)
		}
	}
	for _, a := range good {
		for _, b := range good {
			want := api.ErrParts
			if len(a) == len(b) {
				want = api.OK
			}
			check(a, b, want)
		}
		for _, b := range bad {
			check(a, b, api.ErrParts)
			check(b, a, api.ErrParts)
			check(b, b, api.ErrParts)
		}
	}
}

// P6.11: Finer is an order, and Meet and Join are the nearest ones that are finer, and coarser, than both.
func TestNearest(t *testing.T) {
	for nodes := 1; nodes <= 4; nodes++ {
		all := partitions(nodes)
		for _, a := range all {
			if !finer(t, a, a) {
				t.Fatal(a)
			}
			for _, b := range all {
				checkNearest(t, a, b, all)
			}
		}
	}
	x := noise(4)
	all := partitions(6)
	for range 60 {
		checkNearest(t, all[x.below(len(all))], all[x.below(len(all))], all)
	}
}

// checkNearest holds two partitions against all of as many nodes.
func checkNearest(t *testing.T, a, b []int, all [][]int) {
	t.Helper()
	m, j := meet(t, a, b), joinOf(t, a, b)
	if !slices.Equal(m, meet(t, b, a)) || !slices.Equal(j, joinOf(t, b, a)) {
		t.Fatal(a, b, m, j)
	}
	if finer(t, a, b) && finer(t, b, a) != slices.Equal(a, b) || finer(t, a, b) != slices.Equal(m, a) || finer(t, a, b) != slices.Equal(j, b) {
		t.Fatal(a, b)
	}
	if !finer(t, m, a) || !finer(t, m, b) || !finer(t, a, j) || !finer(t, b, j) {
		t.Fatal(a, b, m, j)
	}
	for _, c := range all {
		if finer(t, a, b) && finer(t, b, c) && !finer(t, a, c) {
			t.Fatal(a, b, c)
		}
		if finer(t, c, a) && finer(t, c, b) && !finer(t, c, m) || finer(t, a, c) && finer(t, b, c) && !finer(t, j, c) {
			t.Fatal(a, b, c, m, j)
		}
	}
}

// P6.11: a graph that allows two partitions allows their Meet, for any number of people (not for as many as these have).
func TestMeetsAreAllowed(t *testing.T) {
	more, joins := 0, 0
	for _, g := range small(5, 60, 5) {
		all := collect(t, g, 0)
		for _, a := range all {
			for _, b := range all {
				m := meet(t, a, b)
				if is, err := parts.Allowed(g, 0, m); !is || err != api.OK {
					t.Fatal(g, a, b, m, err)
				}
				if people(m) > max(people(a), people(b)) {
					more++
				}
				if is, _ := parts.Allowed(g, 0, joinOf(t, a, b)); !is {
					joins++
				}
			}
		}
	}
	if min(more, joins) < 100 {
		t.Error(more, joins)
	}
}
