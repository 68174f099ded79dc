package count_test

import (
	"math"
	"slices"
	"testing"

	"bonehouse/api"
	"bonehouse/count"
)

// countedOf returns the left and the right counted finds of an element, as the chapter says it.
func countedOf(l []api.Find, element int) (left, right []int) {
	has := func(zone int) (left, right []int) {
		for i, f := range l {
			if f.Element == element && f.Zones[0]>>zone&1 == 1 {
				if f.Side == api.LeftS {
					left = append(left, i)
				}
				if f.Side == api.RightS {
					right = append(right, i)
				}
			}
		}
		return left, right
	}
	for zone := range api.MaxZone + 1 {
		if a, b := has(zone); len(a)+len(b) > len(left)+len(right) {
			left, right = a, b
		}
	}
	return left, right
}

// canBe returns all pairs that can be.
func canBe(l []api.Find, g api.Graph, element int) [][2]int {
	r := relatedIn(g)
	left, right := countedOf(l, element)
	var pairs [][2]int
	for _, a := range left {
		for _, b := range right {
			if !r.apart[a][b] {
				pairs = append(pairs, [2]int{a, b})
			}
		}
	}
	return pairs
}

// arePairs reports whether these are pairs that can be, as CheckPairs is to accept them.
func arePairs(can, pairs [][2]int) bool {
	for i, pair := range pairs {
		if !slices.Contains(can, pair) || i > 0 && pair[0] <= pairs[i-1][0] {
			return false
		}
		for _, other := range pairs[:i] {
			if pair[1] == other[1] {
				return false
			}
		}
	}
	return true
}

// mostPairs returns how many pairs there can be at once: with the first one or without it.
func mostPairs(can [][2]int) int {
	if len(can) == 0 {
		return 0
	}
	first := can[0]
	rest := slices.DeleteFunc(slices.Clone(can), func(pair [2]int) bool { return pair[0] == first[0] || pair[1] == first[1] })
	return max(1+mostPairs(rest), mostPairs(can[1:]))
}

// paired is what the package tells of finds of an element.
type paired struct {
	pairs   [][2]int
	number  int
	lacking []int
}

// pairedIn asks for all of it; finds and graph are not to be changed.
func pairedIn(t testing.TB, l []api.Find, g api.Graph, element int) paired {
	t.Helper()
	finds, cuts := clonedFinds(l), slices.Clone(g.Ties)
	pairs, err := count.Pairs(l, g, element)
	number, err2 := count.Paired(l, g, element)
	lacking, err3 := count.Lacking(l, g, element)
	if err != api.OK || err2 != api.OK || err3 != api.OK || !sameFinds(l, finds) || !slices.Equal(g.Ties, cuts) {
		t.Fatal(l, g, element, err, err2, err3)
	}
	return paired{pairs, number, lacking}
}

// checkPaired holds all that is told of finds of an element against what the chapter says.
func checkPaired(t testing.TB, l []api.Find, g api.Graph, element int) paired {
	t.Helper()
	can := canBe(l, g, element)
	left, right := countedOf(l, element)
	p := pairedIn(t, l, g, element)
	if len(p.pairs) != mostPairs(can) || !arePairs(can, p.pairs) || count.CheckPairs(l, g, element, p.pairs) != api.OK {
		t.Fatal(l, g, element, p, can)
	}
	if p.number != len(left)+len(right)-len(p.pairs) || len(p.lacking) != len(p.pairs) {
		t.Fatal(l, g, element, p)
	}
	for i, n := range p.lacking {
		if i > 0 && n <= p.lacking[i-1] || !slices.Contains(left, n) && !slices.Contains(right, n) {
			t.Fatal(l, g, element, p)
		}
	}
	for _, pair := range can {
		if !slices.Contains(p.lacking, pair[0]) && !slices.Contains(p.lacking, pair[1]) {
			t.Fatal(l, g, element, p, pair)
		}
	}
	return p
}

// vault returns the finds and the graph of the stage's test: of the zone 0 there are three left ones and two right ones.
func vault() ([]api.Find, api.Graph) {
	return []api.Find{bone(1, 1), bone(1, 1), bone(1, 3), bone(2, 1), bone(2, 5), bone(1, 2), bone(3, 1)}, graph(7, cut(0, 4), cut(1, 3), cut(1, 4), cut(2, 3), cut(2, 4))
}

// P5.7: the chapter's example, and others of which it is known.
func TestPairExamples(t *testing.T) {
	finds, g := vault()
	three := []api.Find{bone(1, 1), bone(1, 1), bone(2, 1)}
	for i, x := range []struct {
		l       []api.Find
		g       api.Graph
		element int
		pairs   [][2]int
		number  int
	}{
		{finds, g, 12, [][2]int{{0, 3}}, 4}, {finds, graph(7, g.Ties[:3]...), 12, [][2]int{{0, 3}, {2, 4}}, 3}, {finds, g, 13, nil, 0}, {finds, g, 10, nil, 0}, {finds, g, 31, nil, 0},
		{three, graph(3, cut(0, 2)), 12, [][2]int{{1, 2}}, 2}, {three, graph(3, cut(2, 1)), 12, [][2]int{{0, 2}}, 2}, {three, graph(3, cut(0, 2), cut(1, 2)), 12, nil, 3}, {three[:2], graph(2), 12, nil, 2}, {three[2:], graph(1), 12, nil, 1},
		{three, graph(3, join(0, 1), cut(0, 2)), 12, nil, 3}, // what follows keeps apart as well
		{three, graph(3, join(0, 2), cut(0, 1)), 12, [][2]int{{0, 2}}, 2},
		{[]api.Find{bone(2, 1), bone(1, 1)}, graph(2), 12, [][2]int{{1, 0}}, 1}, {[]api.Find{bone(3, 1), bone(1, 1), bone(3, 1)}, graph(3), 12, nil, 1}, {[]api.Find{middle(1)}, graph(1), 12, nil, 0},
		// The zones 1 and 2 are those of two finds each: the lesser one is counted. Of the zone 4 there are three, but of an unknown side.
		{[]api.Find{bone(1, 2), bone(2, 2), bone(1, 4), bone(1, 4), bone(3, 16), bone(3, 16), bone(3, 16)}, graph(7), 12, [][2]int{{0, 1}}, 1},
		{[]api.Find{bone(1, 4), bone(2, 4), bone(1, 2), bone(1, 2)}, graph(4), 12, nil, 2},
		// Two left ones of a zone and one right one are more than one and one of a lesser zone.
		{[]api.Find{bone(1, 1), bone(2, 1), bone(1, 2), bone(1, 2), bone(2, 2)}, graph(5, cut(2, 4)), 12, [][2]int{{3, 4}}, 2},
		{[]api.Find{bone(1, 1<<15), bone(2, 1<<15)}, graph(2), 12, [][2]int{{0, 1}}, 1},
	} {
		if p := checkPaired(t, x.l, x.g, x.element); !slices.Equal(p.pairs, x.pairs) || p.number != x.number {
			t.Error(i, p)
		}
	}
}

// P5.7: which lists CheckPairs accepts; they need not be as many as possible.
func TestCheckPairsExamples(t *testing.T) {
	finds, g := vault()
	g.Ties = g.Ties[:3]
	for i, x := range []struct {
		pairs [][2]int
		err   api.Errno
	}{
		{nil, api.OK}, {[][2]int{}, api.OK}, {[][2]int{{0, 3}}, api.OK}, {[][2]int{{2, 3}}, api.OK}, {[][2]int{{0, 3}, {2, 4}}, api.OK},
		{[][2]int{{2, 4}, {0, 3}}, api.ErrParts}, {[][2]int{{0, 3}, {2, 3}}, api.ErrParts}, {[][2]int{{0, 3}, {0, 3}}, api.ErrParts}, {[][2]int{{2, 3}, {2, 4}}, api.ErrParts}, {[][2]int{{0, 4}}, api.ErrParts}, {[][2]int{{0, 3}, {1, 4}}, api.ErrParts},
		{[][2]int{{3, 0}}, api.ErrParts}, {[][2]int{{5, 3}}, api.ErrParts}, {[][2]int{{0, 6}}, api.ErrParts}, {[][2]int{{0, 9}}, api.ErrParts}, {[][2]int{{0, 2}}, api.ErrParts}, {[][2]int{{0, 0}}, api.ErrParts}, {[][2]int{{6, 3}}, api.ErrParts}, {[][2]int{{7, 3}}, api.ErrParts}, {[][2]int{{-1, 3}}, api.ErrParts}, {[][2]int{{0, -1}}, api.ErrParts}, {[][2]int{{math.MinInt, math.MaxInt}}, api.ErrParts}, {[][2]int{{0, 32}}, api.ErrParts}, {[][2]int{{0, math.MinInt}}, api.ErrParts},
	} {
		kept := slices.Clone(x.pairs)
		if err := count.CheckPairs(finds, g, 12, x.pairs); err != x.err || !slices.Equal(x.pairs, kept) {
			t.Error(i, err)
		}
	}
}

// pairQuestions returns the questions of finds and a graph: whether the result is its zero value, and the error.
func pairQuestions() []func(l []api.Find, g api.Graph, element int) (bool, api.Errno) {
	return []func(l []api.Find, g api.Graph, element int) (bool, api.Errno){
		func(l []api.Find, g api.Graph, element int) (bool, api.Errno) {
			pairs, err := count.Pairs(l, g, element)
			return len(pairs) == 0, err
		},
		func(l []api.Find, g api.Graph, element int) (bool, api.Errno) {
			return true, count.CheckPairs(l, g, element, [][2]int{{-1, -1}}) // its ErrParts counts last
		},
		func(l []api.Find, g api.Graph, element int) (bool, api.Errno) {
			n, err := count.Paired(l, g, element)
			return n == 0, err
		},
		func(l []api.Find, g api.Graph, element int) (bool, api.Errno) {
			lacking, err := count.Lacking(l, g, element)
			return len(lacking) == 0, err
		},
	}
}

// P5.7: the errors of finds count ahead of those of graphs, these ahead of that of the number of nodes, and this one ahead of that of the element.
func TestPairErrors(t *testing.T) {
	finds, g := vault()
	for i, f := range pairQuestions() {
		for k, find := range wrongFinds() {
			l := append(clonedFinds(finds[:6]), find)
			for _, h := range []api.Graph{g, {}, graph(17), graph(2, join(0, 1), cut(0, 1)), graph(3)} {
				for _, element := range []int{12, 9} {
					if zero, err := f(l, h, element); !zero || err != api.ErrFind {
						t.Error(i, k, zero, err)
					}
				}
			}
		}
		for want, graphs := range wrongGraphs() {
			for k, h := range graphs {
				if zero, err := f(finds, h, 9); !zero || err != want {
					t.Error(i, k, zero, err)
				}
				if h.Nodes < 1 || h.Nodes > 40 {
					continue
				}
				if zero, err := f(make([]api.Find, h.Nodes), h, 12); !zero || err != api.ErrFind {
					t.Error(i, k, zero, err)
				}
				if zero, err := f(slices.Repeat(finds[:1], h.Nodes), h, 12); !zero || err != want {
					t.Error(i, k, zero, err)
				}
			}
		}
		for _, l := range [][]api.Find{nil, finds[:6], slices.Concat(finds, finds), slices.Concat(finds, finds[:1]), slices.Repeat(finds, 10)} {
			for _, element := range []int{12, 9} {
				if zero, err := f(l, g, element); !zero || err != api.ErrArg {
					t.Error(i, len(l), zero, err)
				}
			}
		}
		for _, element := range []int{9, 0, -1, 3, 32, math.MinInt, math.MaxInt} {
			if zero, err := f(finds, g, element); !zero || err != api.ErrArg {
				t.Error(i, element, zero, err)
			}
		}
		if _, err := f(finds, g, 31); err != api.OK && err != api.ErrParts {
			t.Error(i, err)
		}
	}
}

// somePairs returns pairs, most of which can be.
func somePairs(x *noise, can [][2]int, nodes int) [][2]int {
	var pairs [][2]int
	for _, pair := range can {
		if x.below(2*len(can)) < 3 {
			pairs = append(pairs, pair)
		}
	}
	if x.below(3) == 0 {
		pairs = slices.Insert(pairs, x.below(len(pairs)+1), [2]int{x.from(-1, nodes), x.from(-1, nodes)})
	}
	if x.below(4) == 0 {
		slices.Reverse(pairs)
	}
	return pairs
}

// P5.7 and P5.13: any finds and graphs of few nodes, held against all pairs.
func TestPairs(t *testing.T) {
	x := noise(51)
	seen := map[api.Errno]int{}
	for range 500 {
		nodes := x.from(2, 12)
		l := someFinds(&x, nodes)
		g := further(&x, graph(nodes), x.below(6*nodes), 10)
		for element := 10; element <= 13; element++ {
			p := checkPaired(t, l, g, element)
			can := canBe(l, g, element)
			for range 10 {
				pairs := somePairs(&x, can, nodes)
				want := api.ErrParts
				if arePairs(can, pairs) {
					want = api.OK
					if len(pairs) > len(p.lacking) {
						t.Fatal(l, g, pairs, p)
					}
				}
				if err := count.CheckPairs(l, g, element, pairs); err != want {
					t.Fatal(l, g, element, pairs, err)
				}
				seen[want]++
			}
		}
	}
	if min(seen[api.OK], seen[api.ErrParts]) < 1000 {
		t.Error(seen)
	}
}

// P5.7: of finds of one element and one zone many have to be paired anew.
func TestPairsAnew(t *testing.T) {
	x := noise(52)
	less := 0 // cases with less pairs than finds of either side
	for range 300 {
		half := x.from(2, 8)
		var l []api.Find
		for range 2 * half {
			l = append(l, bone(x.from(api.LeftS, api.RightS), 1))
		}
		percent := x.from(20, 95)
		g := graph(2 * half)
		for b := range l {
			for a := range b {
				if l[a].Side != l[b].Side && x.below(100) < percent {
					g = with(g, cut(a, b))
				}
			}
		}
		p := checkPaired(t, l, g, 12)
		if left, right := countedOf(l, 12); len(p.pairs) > 0 && len(p.pairs) < min(len(left), len(right)) {
			less++
		}
	}
	if less < 50 {
		t.Error(less)
	}
}

// P5.7: of 32 finds, whose groups are 16.
func TestPairsWide(t *testing.T) {
	x := noise(53)
	for _, g := range widest(54) {
		var l []api.Find
		for range g.Nodes {
			l = append(l, bone(x.from(api.LeftS, api.RightS), 1))
		}
		p := pairedIn(t, l, g, 12)
		can := canBe(l, g, 12)
		// As many pairs, and finds of which each pair that can be has one: neither can be more, or less.
		if len(p.pairs) != len(p.lacking) || !arePairs(can, p.pairs) || p.number != len(l)-len(p.pairs) {
			t.Fatal(g, p)
		}
		for _, pair := range can {
			if !slices.Contains(p.lacking, pair[0]) && !slices.Contains(p.lacking, pair[1]) {
				t.Fatal(g, p, pair)
			}
		}
	}
}

// P5.13: if each two counted finds of one side are kept apart, there are at least as many people as Paired says; in all allowed partitions of few nodes, and by Least of more.
func TestPairedPeople(t *testing.T) {
	x := noise(55)
	same := 0
	for i := range 200 {
		nodes := x.from(2, 7)
		if i%4 == 0 {
			nodes = x.from(8, 16)
		}
		l := someFinds(&x, nodes)
		for k := range l {
			if x.below(4) > 0 {
				l[k] = bone(x.from(api.LeftS, api.RightS), uint64(1+2*x.below(2)))
			}
		}
		g := graph(nodes)
		left, right := countedOf(l, 12)
		for _, side := range [][]int{left, right} {
			for k, n := range side {
				for _, m := range side[:k] {
					g = with(g, cut(m, n))
				}
			}
		}
		g = further(&x, g, x.below(2*nodes), 20)
		p := checkPaired(t, l, g, 12)
		fewest := least(t, g)
		if fewest < p.number {
			t.Fatal(l, g, fewest, p)
		}
		if fewest == p.number {
			same++
		}
		if nodes <= 7 && leastOf(allowed(g)) < p.number {
			t.Fatal(l, g, p)
		}
	}
	if same < 20 {
		t.Error(same)
	}
}

// R2 of P5.7: results are memory of their own.
func TestPairMemory(t *testing.T) {
	finds, g := vault()
	first, again := pairedIn(t, finds, g, 12), pairedIn(t, finds, g, 12)
	clear(first.pairs[:cap(first.pairs)])
	clear(first.lacking[:cap(first.lacking)])
	if len(again.pairs) != 1 || again.pairs[0] != [2]int{0, 3} || len(again.lacking) != 1 || count.CheckPairs(finds, g, 12, again.pairs) != api.OK {
		t.Error(again)
	}
}
