package parts_test

import (
	"slices"
	"testing"

	"bonehouse/api"
	"bonehouse/count"
	"bonehouse/parts"
)

// mosts returns numbers of people of which some are enough for a graph, others not.
func mosts(groups int) []int {
	l := []int{0, 32}
	for most := 1; most <= groups+1; most++ {
		l = append(l, most)
	}
	return l
}

// P6.3: the chapter's examples.
func TestAllExamples(t *testing.T) {
	g := example()
	for i, x := range []struct {
		g    api.Graph
		most int
		want [][]int
	}{
		{g, 0, [][]int{{0, 0, 1, 0}, {0, 0, 1, 1}, {0, 0, 1, 2}}}, {g, 1, nil}, {g, 2, [][]int{{0, 0, 1, 0}, {0, 0, 1, 1}}}, {g, 3, [][]int{{0, 0, 1, 0}, {0, 0, 1, 1}, {0, 0, 1, 2}}}, {g, 32, [][]int{{0, 0, 1, 0}, {0, 0, 1, 1}, {0, 0, 1, 2}}},
		{example(cut(2, 3)), 2, [][]int{{0, 0, 1, 0}}}, {graph(1), 0, [][]int{{0}}}, {graph(1), 1, [][]int{{0}}}, {graph(2), 1, [][]int{{0, 0}}}, {graph(2), 0, [][]int{{0, 0}, {0, 1}}}, {ring(5), 2, nil},
		{graph(3, join(0, 2)), 0, [][]int{{0, 0, 0}, {0, 1, 0}}}, {graph(4, join(1, 3), cut(0, 3)), 0, [][]int{{0, 1, 0, 1}, {0, 1, 1, 1}, {0, 1, 2, 1}}},
	} {
		if l := collect(t, x.g, x.most); !sameLists(l, x.want) {
			t.Error(i, l)
		}
		if n, err := parts.Count(x.g, x.most); n != len(x.want) || err != api.OK {
			t.Error(i, n, err)
		}
	}
	if l, err := parts.By(g); !slices.Equal(l, []int{0, 0, 2, 1}) || err != api.OK {
		t.Error(l, err)
	}
	if l, err := parts.By(graph(1)); !slices.Equal(l, []int{0, 1}) || err != api.OK {
		t.Error(l, err)
	}
}

// P6.3 and P6.8: Allowed of all partitions, All and Count for all numbers of people, held against the chapter's words.
func TestAll(t *testing.T) {
	seen := map[bool]int{}
	for _, g := range small(6, 200, 6) {
		r := relatedIn(g)
		by := make([]int, len(r.firsts())+1)
		for _, most := range mosts(g.Nodes) {
			var want [][]int
			for _, l := range partitions(g.Nodes) {
				kept := slices.Clone(l)
				is, err := parts.Allowed(g, most, l)
				if is != r.allows(most, l) || err != api.OK || !slices.Equal(l, kept) {
					t.Fatal(g, most, l, is, err)
				}
				if is {
					want = append(want, l)
				}
				if is && most == 0 {
					by[people(l)]++
				}
				seen[is]++
			}
			if l := collect(t, g, most); !sameLists(l, want) {
				t.Fatal(g, most, l)
			}
			if n, err := parts.Count(g, most); n != len(want) || err != api.OK {
				t.Fatal(g, most, n, err)
			}
		}
		if l, err := parts.By(g); !slices.Equal(l, by) || err != api.OK {
			t.Fatal(g, l, by, err)
		}
	}
	if min(seen[false], seen[true]) < 5000 {
		t.Error(seen)
	}
}

// nextOf returns what Next returns of a graph that is right.
func nextOf(t testing.TB, g api.Graph, most int, l []int) ([]int, bool) {
	t.Helper()
	kept := slices.Clone(l)
	next, is, err := parts.Next(g, most, l)
	if err != api.OK || is != (len(next) > 0) || !slices.Equal(l, kept) {
		t.Fatal(g, most, l, next, is, err)
	}
	return next, is
}

// P6.3 and P6.8: Next of each partition, also of those that are not allowed.
func TestNext(t *testing.T) {
	for _, g := range small(7, 120, 6) {
		for _, most := range mosts(g.Nodes) {
			all := allowed(g, most)
			for _, l := range partitions(g.Nodes) {
				at := slices.IndexFunc(all, func(p []int) bool { return slices.Compare(p, l) > 0 })
				next, is := nextOf(t, g, most, l)
				if is != (at >= 0) || is && !slices.Equal(next, all[at]) {
					t.Fatal(g, most, l, next)
				}
			}
		}
	}
}

// P6.3: Next of partitions that have joined nodes apart: what follows them is ahead, or behind, of what they could have been.
func TestNextExamples(t *testing.T) {
	chain := graph(5, join(0, 2), join(1, 4)) // the groups are 0 2, 1 4, and 3
	for i, x := range []struct {
		g       api.Graph
		most    int
		l, want []int
	}{
		{example(), 0, []int{0, 0, 0, 0}, []int{0, 0, 1, 0}}, {example(), 0, []int{0, 0, 1, 0}, []int{0, 0, 1, 1}}, {example(), 2, []int{0, 0, 1, 1}, nil}, {example(), 0, []int{0, 1, 2, 3}, nil}, {example(), 1, []int{0, 0, 0, 0}, nil},
		{chain, 0, []int{0, 0, 0, 0, 0}, []int{0, 0, 0, 1, 0}}, {chain, 0, []int{0, 0, 0, 0, 1}, []int{0, 0, 0, 1, 0}}, {chain, 0, []int{0, 0, 0, 1, 0}, []int{0, 1, 0, 0, 1}}, {chain, 0, []int{0, 0, 1, 0, 0}, []int{0, 1, 0, 0, 1}},
		{chain, 0, []int{0, 1, 0, 0, 0}, []int{0, 1, 0, 0, 1}}, {chain, 0, []int{0, 1, 0, 0, 2}, []int{0, 1, 0, 1, 1}}, {chain, 0, []int{0, 1, 0, 1, 1}, []int{0, 1, 0, 2, 1}}, {chain, 2, []int{0, 1, 0, 1, 1}, nil}, {chain, 0, []int{0, 1, 0, 2, 0}, []int{0, 1, 0, 2, 1}}, {chain, 0, []int{0, 1, 0, 2, 1}, nil}, {chain, 0, []int{0, 1, 1, 0, 0}, nil}, {chain, 0, []int{0, 1, 0, 2, 3}, nil},
	} {
		if l, is := nextOf(t, x.g, x.most, x.l); !slices.Equal(l, x.want) || is != (x.want != nil) {
			t.Error(i, l, is)
		}
	}
}

// P6.8: Next goes from the first partition to each following one.
func TestWalk(t *testing.T) {
	for _, g := range widest(8) {
		all := collect(t, g, 0)
		step := 1 + len(all)/3000
		for i := 0; i < len(all); i += step {
			next, is := nextOf(t, g, 0, all[i])
			if is != (i+1 < len(all)) || is && !slices.Equal(next, all[i+1]) {
				t.Fatal(g, all[i], next)
			}
		}
	}
	for _, g := range []api.Graph{graph(7), with(graph(9), join(2, 7), cut(7, 8)), wide(new(noise), 7, 20)} {
		n := 0
		for l, is := make([]int, g.Nodes), true; is; n++ {
			l, is = nextOf(t, g, 4, l)
		}
		first, err := parts.Allowed(g, 4, make([]int, g.Nodes)) // the walk begins behind it
		if err != api.OK {
			t.Fatal(g, err)
		}
		if first {
			n++
		}
		if want := len(ofAtMost(allowedWide(g), 4)); n-1 != want || want < 100 {
			t.Error(g, n, want)
		}
	}
}

// P6.3 and P6.8: graphs of up to 10 groups and 32 nodes, and partitions that are almost allowed.
func TestWideAll(t *testing.T) {
	x := noise(9)
	for _, g := range widest(10) {
		r := relatedIn(g)
		all := allowedWide(g)
		for _, most := range []int{0, 1, 2, 3, 4, 9, 10, 32} {
			want := ofAtMost(all, most)
			if l := collect(t, g, most); !sameLists(l, want) {
				t.Fatal(g, most, len(l), len(want))
			}
			if n, err := parts.Count(g, most); n != len(want) || err != api.OK {
				t.Fatal(g, most, n, err)
			}
			if len(want) == 0 {
				continue
			}
			for range 20 {
				l := want[x.below(len(want))]
				if is, err := parts.Allowed(g, most, l); !is || err != api.OK {
					t.Fatal(g, most, l, err)
				}
				l = slices.Clone(l)
				l[x.below(len(l))] = x.below(len(l))
				l = normalOf(t, l)
				if is, err := parts.Allowed(g, most, l); is != r.allows(most, l) || err != api.OK {
					t.Fatal(g, most, l, is, err)
				}
				at := slices.IndexFunc(want, func(p []int) bool { return slices.Compare(p, l) > 0 })
				next, is := nextOf(t, g, most, l)
				if is != (at >= 0) || is && !slices.Equal(next, want[at]) {
					t.Fatal(g, most, l, next)
				}
			}
		}
	}
}

// normalOf returns the normal form of a list.
func normalOf(t testing.TB, l []int) []int {
	t.Helper()
	p, err := parts.Normal(l)
	if err != api.OK {
		t.Fatal(l, err)
	}
	return p
}

// P6.3: how many there are of ten nodes without ties, with each number of people.
func TestCounts(t *testing.T) {
	want := []int{0, 1, 511, 9330, 34105, 42525, 22827, 5880, 750, 45, 1}
	if l, err := parts.By(graph(10)); !slices.Equal(l, want) || err != api.OK {
		t.Error(l, err)
	}
	sum := 0
	for most, n := range want {
		if most > 0 {
			sum += n
			if got, err := parts.Count(graph(10), most); got != sum || err != api.OK {
				t.Error(most, got, err)
			}
		}
	}
	if n, err := parts.Count(graph(10), 0); n != 115975 || err != api.OK {
		t.Error(n, err)
	}
}

// P6.8 and P6.9: with more people allowed there are no fewer partitions, and none for fewer people than there are at least.
func TestFewPeople(t *testing.T) {
	for _, g := range append(widest(11), small(12, 120, 7)...) {
		least, err := count.Least(g)
		by, wrong := parts.By(g)
		if err != api.OK || wrong != api.OK || len(by) != len(relatedIn(g).firsts())+1 {
			t.Fatal(g, err, wrong, by)
		}
		sum := 0
		for most := 1; most <= 32; most++ {
			before := sum
			if most < len(by) {
				sum += by[most]
			}
			n, err := parts.Count(g, most)
			if n != sum || n < before || err != api.OK || (n > 0) != (most >= least) {
				t.Fatal(g, most, n, sum, least, err)
			}
		}
		if by[0] != 0 || by[least] == 0 || slices.Max(by[:least]) != 0 || by[len(by)-1] != 1 {
			t.Fatal(g, by, least)
		}
		if n, err := parts.Count(g, 0); n != sum || err != api.OK {
			t.Fatal(g, n, sum, err)
		}
	}
}

// P6.3 and R2: what All returns can be ranged over several times, also within itself, and be left at any time; each list is new, and the graph may change meanwhile.
func TestRanging(t *testing.T) {
	g := example(cut(2, 3), join(1, 0))
	want := allowed(g, 0)
	ties := slices.Clone(g.Ties)
	all, err := parts.All(g, 0)
	if err != api.OK || len(want) != 2 {
		t.Fatal(want, err)
	}
	g.Ties[0], g.Ties[1], g.Ties[2] = cut(0, 3), join(1, 2), join(0, 3)
	for left := range 4 {
		var got [][]int
		for l := range all {
			if len(got) == left {
				break
			}
			got = append(got, slices.Clone(l))
			for i := range l {
				l[i] = 9
			}
			clear(l[len(l):cap(l)])
		}
		if !sameLists(got, want[:min(left, len(want))]) {
			t.Error(left, got)
		}
	}
	i := 0
	for a := range all {
		k := 0
		for b := range all {
			if !slices.Equal(a, want[i]) || !slices.Equal(b, want[k]) {
				t.Error(i, k, a, b)
			}
			k++
		}
		i++
	}
	if i != len(want) {
		t.Error(i)
	}
	kept := slices.Collect(all)
	clear(kept[0])
	if again := slices.Collect(all); !sameLists(again, want) {
		t.Error(again)
	}
	g.Ties = ties
	if again := collect(t, g, 0); !sameLists(again, want) {
		t.Error(again)
	}
}

// P6.3: the iterator can be left at each partition of a wide graph, and goes no further.
func TestLeaving(t *testing.T) {
	x := noise(13)
	for _, g := range widest(14) {
		want := allowedWide(g)
		all, err := parts.All(g, 0)
		if err != api.OK {
			t.Fatal(g, err)
		}
		for range 5 {
			last, n := x.below(len(want)), 0
			all(func(l []int) bool {
				if n > last || !slices.Equal(l, want[n]) {
					t.Fatal(g, n, last, l)
				}
				n++
				return n <= last
			})
			if n != last+1 {
				t.Fatal(g, n, last)
			}
		}
	}
}
