package count_test

import (
	"slices"
	"testing"

	"bonehouse/api"
	"bonehouse/count"
)

// example returns the chapter's proof that five nodes in a ring are more than two people.
func example() []api.Step {
	return []api.Step{question(0, 2, 1, 2), question(0, 3, 3, 4), {Clique: []int{0, 1, 2}}, {}, {Clique: []int{0, 3, 4}}}
}

// question returns a question of two nodes, with the steps behind it.
func question(a, b, together, apart int) api.Step {
	return api.Step{A: a, B: b, Together: together, Apart: apart}
}

// copied returns a list of steps that shares no memory with l.
func copied(l []api.Step) []api.Step {
	l = slices.Clone(l)
	for i := range l {
		l[i].Clique = slices.Clone(l[i].Clique)
	}
	return l
}

// sameSteps reports whether two lists of steps are equal.
func sameSteps(l, m []api.Step) bool {
	return slices.EqualFunc(l, m, func(s, r api.Step) bool {
		return s.A == r.A && s.B == r.B && s.Together == r.Together && s.Apart == r.Apart && slices.Equal(s.Clique, r.Clique)
	})
}

// isProof reports whether l is a proof that there are more people, as the chapter says it.
func isProof(g api.Graph, number int, l []api.Step) bool {
	if len(l) == 0 {
		return false
	}
	led := make([]int, len(l)) // how often a question leads to the step
	for i, s := range l {
		if s.Together != 0 || s.Apart != 0 {
			if min(s.Together, s.Apart) <= i || max(s.Together, s.Apart) >= len(l) || s.Together == s.Apart {
				return false
			}
			led[s.Together]++
			led[s.Apart]++
		}
	}
	for i, times := range led {
		if times != min(i, 1) {
			return false
		}
	}
	return isProofFrom(g, number, l, 0)
}

// isProofFrom reports whether the step with an index, whose case is g, and those behind it are as the chapter says it.
func isProofFrom(g api.Graph, number int, l []api.Step, at int) bool {
	s := l[at]
	r := relatedIn(g)
	isNode := func(n int) bool { return n >= 0 && n < g.Nodes }
	if s.Together != 0 || s.Apart != 0 {
		if !isNode(s.A) || !isNode(s.B) || s.A == s.B || len(s.Clique) > 0 {
			return false
		}
		return isProofFrom(with(g, join(s.A, s.B)), number, l, s.Together) && isProofFrom(with(g, cut(s.A, s.B)), number, l, s.Apart)
	}
	if s.A != 0 || s.B != 0 {
		return false
	}
	if len(s.Clique) == 0 {
		return r.contradicts()
	}
	for i, n := range s.Clique {
		if !isNode(n) || i > 0 && n <= s.Clique[i-1] {
			return false
		}
	}
	return len(s.Clique) == number+1 && r.isClique(s.Clique)
}

// P5.4: the chapter's example, and lists of steps that are no proofs.
func TestProofExamples(t *testing.T) {
	for i, change := range []func(l []api.Step) []api.Step{
		func(l []api.Step) []api.Step { return nil },
		func(l []api.Step) []api.Step { return l[:1] },
		func(l []api.Step) []api.Step { return l[:4] },
		func(l []api.Step) []api.Step { return append(l, api.Step{}) },                                   // to which nothing leads
		func(l []api.Step) []api.Step { return append(l, api.Step{Clique: []int{0, 1}}) },                // nor to this one
		func(l []api.Step) []api.Step { return append(l, question(0, 2, 1, 2)) },                         // nor to this one
		func(l []api.Step) []api.Step { return append(l, question(0, 2, 6, 7), api.Step{}, api.Step{}) }, // nor to this one
		func(l []api.Step) []api.Step { l[0].Apart = 1; return l },                                       // twice to the same
		func(l []api.Step) []api.Step { l[0].Together = 2; return l },
		func(l []api.Step) []api.Step { l[1].Apart = 3; return l },
		func(l []api.Step) []api.Step { l[1].Together = 2; return l }, // to which the step 0 leads
		func(l []api.Step) []api.Step { l[1].Together = 1; return l }, // to itself
		func(l []api.Step) []api.Step { l[1].Together = 0; return l }, // back to the beginning
		func(l []api.Step) []api.Step { l[1].Apart = 0; return l },
		func(l []api.Step) []api.Step { l[1].Together, l[1].Apart = 0, 0; return l },
		func(l []api.Step) []api.Step { l[0].Together, l[0].Apart = 0, 2; return l },
		func(l []api.Step) []api.Step { l[1].Apart = 5; return l }, // to no step
		func(l []api.Step) []api.Step { l[1].Together = -1; return l },
		func(l []api.Step) []api.Step { l[1].Apart = -4; return l },
		func(l []api.Step) []api.Step { l[1].Together, l[1].Apart = 4, 3; return l }, // the cases changed
		func(l []api.Step) []api.Step { l[0].Together, l[0].Apart = 2, 1; return l },
		func(l []api.Step) []api.Step { l[0].A = 2; return l },
		func(l []api.Step) []api.Step { l[0].B = 0; return l },
		func(l []api.Step) []api.Step { l[0].B = 5; return l },
		func(l []api.Step) []api.Step { l[0].A = -1; return l },
		func(l []api.Step) []api.Step { l[0].B = 3; return l },
		func(l []api.Step) []api.Step { l[0].Clique = []int{0, 1, 2}; return l },
		func(l []api.Step) []api.Step { l[1].Clique = []int{0}; return l },
		func(l []api.Step) []api.Step { l[2].Clique = []int{0, 2}; return l },
		func(l []api.Step) []api.Step { l[2].Clique = []int{0, 1, 3}; return l },
		func(l []api.Step) []api.Step { l[2].Clique = []int{0, 2, 1}; return l },
		func(l []api.Step) []api.Step { l[2].Clique = []int{0, 1, 1, 2}; return l },
		func(l []api.Step) []api.Step { l[2].Clique = []int{0, 1, 5}; return l },
		func(l []api.Step) []api.Step { l[2].Clique = []int{-1, 0, 1}; return l },
		func(l []api.Step) []api.Step { l[2].Clique = []int{0, 0, 1}; return l },
		func(l []api.Step) []api.Step { l[2].Clique = nil; return l }, // no contradiction
		func(l []api.Step) []api.Step { l[4].Clique = nil; return l },
		func(l []api.Step) []api.Step { l[3].Clique = []int{0, 1, 4}; return l },
		func(l []api.Step) []api.Step { l[3].A = 1; return l },
		func(l []api.Step) []api.Step { l[3].B = 1; return l },
		func(l []api.Step) []api.Step { l[3].A, l[3].B = 1, 2; return l },
		func(l []api.Step) []api.Step { l[4].A = 3; return l },
		func(l []api.Step) []api.Step { l[4].B = 3; return l },
	} {
		l := change(example())
		kept := copied(l)
		if err := count.CheckProof(ring(5), 2, l); err != api.ErrProof || isProof(ring(5), 2, l) || !sameSteps(l, kept) {
			t.Error(i, err)
		}
	}
	for i, change := range []func(l []api.Step) []api.Step{
		func(l []api.Step) []api.Step { return l },
		func(l []api.Step) []api.Step { l[0].A, l[0].B = 2, 0; return l },
		func(l []api.Step) []api.Step { l[1].A = 2; return l }, // 0 and 2 are joined: that of 2 and 3 is a question as well
		func(l []api.Step) []api.Step { l[3].Clique = []int{}; return l },
		func(l []api.Step) []api.Step { l[4].Clique = []int{2, 3, 4}; return l },
		func(l []api.Step) []api.Step { l[3].Clique = []int{0, 2, 3}; return l }, // in a contradiction two nodes can be both
		func(l []api.Step) []api.Step { // the steps behind a question in the other order
			l[1].Together, l[1].Apart = 4, 3
			l[3], l[4] = l[4], l[3]
			return l
		},
		func(l []api.Step) []api.Step { // a question whose answer is known
			l[4] = question(3, 4, 5, 6)
			return append(l, api.Step{}, api.Step{Clique: []int{0, 3, 4}})
		},
		func(l []api.Step) []api.Step { // a further question in a contradiction
			l[3] = question(1, 4, 5, 6)
			return append(l, api.Step{}, api.Step{})
		},
	} {
		l := change(example())
		if err := count.CheckProof(ring(5), 2, l); err != api.OK || !isProof(ring(5), 2, l) {
			t.Error(i, err)
		}
	}
}

// P5.4 and P5.8: a proof for each number below the least one, and none from it on.
func TestProofs(t *testing.T) {
	cases := map[string]int{}
	for _, g := range small(31, 200, 7) {
		fewest := leastOf(allowed(g))
		for number := range 33 {
			l, is := proved(t, g, number)
			if is != (number < fewest) || is && !isProof(g, number, l) {
				t.Fatal(g, number, l, is)
			}
			if is && len(l) > 1 {
				cases["questions"]++
			}
			// A proof for a number is none for another one.
			for _, other := range []int{number - 1, number + 1, 0, 32} {
				if is && other != number && other >= 0 && count.CheckProof(g, other, l) != api.ErrProof {
					t.Fatal(g, number, other, l)
				}
			}
		}
		if err := count.CheckParted(g, parted(t, g)); err != api.OK || people(parted(t, g)) != fewest {
			t.Fatal(g, err)
		}
	}
	if cases["questions"] < 3 {
		t.Error(cases)
	}
}

// P5.4: numbers of people from 0 to 32 alone, which counts ahead of how long a list is.
func TestProofNumbers(t *testing.T) {
	long := make([]api.Step, 4097)
	for _, number := range wrongNumbers() {
		if l, is, err := count.Proof(ring(5), number); len(l) > 0 || is || err != api.ErrArg {
			t.Error(number, l, is, err)
		}
		for _, l := range [][]api.Step{nil, example(), long} {
			if err := count.CheckProof(ring(5), number, l); err != api.ErrArg {
				t.Error(number, len(l), err)
			}
		}
	}
	for number := range 33 {
		want := api.ErrProof
		if number == 2 {
			want = api.OK
		}
		if err := count.CheckProof(ring(5), number, example()); err != want {
			t.Error(number, err)
		}
		if err := count.CheckProof(ring(5), number, long); err != api.ErrLimit {
			t.Error(number, err)
		}
	}
}

// asking returns a proof that ring(3) is more than two people, which asks so many questions ahead of it: whether 0 and 1 are of one person, which they are not.
func asking(questions int) []api.Step {
	var l []api.Step
	for i := range questions {
		l = append(l, question(1, 0, 2*i+1, 2*i+2), api.Step{})
	}
	return append(l, api.Step{Clique: []int{0, 1, 2}})
}

// P5.4: a proof is a tree: no step is that of two questions, also where it would be right in both cases.
func TestSharedSteps(t *testing.T) {
	leaf := api.Step{Clique: []int{0, 1, 2}}
	for i, x := range []struct {
		l   []api.Step
		err api.Errno
	}{
		{[]api.Step{question(0, 1, 1, 2), question(0, 2, 3, 4), leaf, leaf, leaf}, api.OK},
		{[]api.Step{question(0, 1, 1, 2), question(0, 2, 2, 3), leaf, leaf}, api.ErrProof}, {[]api.Step{question(0, 1, 1, 2), question(0, 2, 3, 2), leaf, leaf}, api.ErrProof}, {[]api.Step{question(0, 1, 2, 1), question(0, 2, 3, 2), leaf, leaf}, api.ErrProof},
		{[]api.Step{question(0, 1, 1, 1), leaf}, api.ErrProof}, {[]api.Step{question(0, 1, 1, 1), leaf, leaf}, api.ErrProof}, {[]api.Step{question(0, 1, 1, 2), leaf, question(0, 2, 3, 1), leaf}, api.ErrProof},
		{[]api.Step{question(0, 1, 1, 2), question(0, 2, 3, 4), question(0, 2, 3, 4), leaf, leaf}, api.ErrProof}, {[]api.Step{question(0, 1, 1, 2), question(0, 2, 3, 4), question(0, 2, 4, 5), leaf, leaf, leaf}, api.ErrProof},
	} {
		if err := count.CheckProof(ring(3), 2, x.l); err != x.err || isProof(ring(3), 2, x.l) != (err == api.OK) {
			t.Error(i, err)
		}
	}
}

// P5.4: a proof can have 4096 steps (as it is a tree, 4095), and more ties than a graph can have; more steps count ahead of what they are.
func TestLongProofs(t *testing.T) {
	g := ring(3)
	for len(g.Ties) < 512 {
		g = with(g, cut(1, 2))
	}
	for _, x := range []struct {
		l   []api.Step
		err api.Errno
	}{
		{asking(0), api.OK}, {asking(1), api.OK}, {asking(600), api.OK}, {asking(2047), api.OK}, {append(asking(2047), api.Step{}), api.ErrProof}, {asking(2048), api.ErrLimit}, {make([]api.Step, 4096), api.ErrProof}, {make([]api.Step, 5000), api.ErrLimit},
	} {
		for _, h := range []api.Graph{ring(3), g} {
			if err := count.CheckProof(h, 2, x.l); err != x.err {
				t.Error(len(x.l), err)
			}
		}
	}
}

// P5.4: graphs whose proofs are long. As no search finds the hardest graph for sure, the longest proof of these is to be far below the limit.
func TestHardProofs(t *testing.T) {
	most := 0
	for _, g := range hard() {
		fewest := least(t, g)
		for number := range fewest {
			l, is := proved(t, g, number)
			if !is || !isProof(g, number, l) {
				t.Error(g, number, len(l), is)
			}
			most = max(most, len(l))
		}
	}
	if most < 100 || most > api.MaxSteps/8 {
		t.Error(most)
	}
}

// changed returns a list of steps with a change.
func changed(x *noise, l []api.Step, nodes int) []api.Step {
	l = copied(l)
	if len(l) == 0 {
		return []api.Step{{}}
	}
	at := x.below(len(l))
	s := &l[at]
	step := x.from(-1, len(l))
	switch x.below(12) {
	case 0:
		s.A = x.from(-1, nodes)
	case 1:
		s.B = x.from(-1, nodes)
	case 2:
		s.Together = step
	case 3:
		s.Apart = step
	case 4:
		s.Together, s.Apart = s.Apart, s.Together
	case 5:
		s.A, s.B = s.B, s.A
	case 6:
		s.Clique = slices.Insert(s.Clique, x.below(len(s.Clique)+1), x.below(nodes))
	case 7:
		if len(s.Clique) > 0 {
			s.Clique[x.below(len(s.Clique))] = x.from(-1, nodes)
		}
	case 8:
		if len(s.Clique) > 0 {
			s.Clique = s.Clique[1:]
		}
	case 9:
		other := x.below(len(l))
		l[at], l[other] = l[other], l[at]
	case 10:
		l = l[:len(l)-1]
	case 11:
		l[at] = question(x.below(nodes), x.below(nodes), len(l), len(l)+1)
		l = append(l, *s, *s)
		l[len(l)-1].Clique = slices.Clone(s.Clique)
		l[at].Clique = nil
	}
	return l
}

// someProof returns some proof that there are more people than a number below the least one: of any questions in any order; none if it became too long.
func someProof(x *noise, g api.Graph, number int) []api.Step {
	l := []api.Step{{}}
	open := map[int]api.Graph{0: g} // the cases of the steps that are to be written
	for len(open) > 0 && len(l) < 200 {
		at := x.below(len(l))
		for ; ; at = (at + 1) % len(l) {
			if _, is := open[at]; is {
				break
			}
		}
		h := open[at]
		delete(open, at)
		ends := x.below(5) > 1 || g.Nodes == 1 // now and then it goes on where it could end
		if ends && relatedIn(h).contradicts() {
			continue
		}
		if clique, is := someClique(x, h, number+1); ends && is {
			l[at].Clique = clique
			continue
		}
		c := aTie(x, g.Nodes, 0)
		first, other := len(l), len(l)+1
		if x.below(2) == 0 {
			first, other = other, first
		}
		l[at] = question(c.A, c.B, first, other)
		l = append(l, api.Step{}, api.Step{})
		open[first], open[other] = with(h, join(c.A, c.B)), with(h, c)
	}
	if len(open) > 0 {
		return nil
	}
	return l
}

// someClique returns so many nodes of which each two are kept apart, and whether there are such.
func someClique(x *noise, g api.Graph, size int) ([]int, bool) {
	r := relatedIn(g)
	sets := 1 << g.Nodes
	from := x.below(sets)
	for i := range sets {
		var l []int
		for n := range g.Nodes {
			if (from+i)%sets>>n&1 == 1 {
				l = append(l, n)
			}
		}
		if len(l) == size && r.isClique(l) {
			return l, true
		}
	}
	return nil, false
}

// P5.4 and P5.8: CheckProof, held against the chapter's words, for proofs of any questions and for what is almost one. If a list is accepted, all allowed partitions have more people.
func TestProofsOfOthers(t *testing.T) {
	x := noise(32)
	seen := map[api.Errno]int{}
	longest := 0
	for _, g := range small(33, 60, 5) {
		fewest := leastOf(allowed(g))
		for number := range fewest {
			l, _ := proved(t, g, number)
			for _, proof := range [][]api.Step{l, someProof(&x, g, number), someProof(&x, g, number)} {
				longest = max(longest, len(proof))
				if len(proof) > 0 && count.CheckProof(g, number, proof) != api.OK {
					t.Fatal(g, number, proof)
				}
				for range 40 {
					other := changed(&x, proof, g.Nodes)
					if x.below(3) == 0 {
						other = changed(&x, other, g.Nodes)
					}
					more := x.from(max(number-1, 0), number+1)
					want := api.ErrProof
					if isProof(g, more, other) {
						want = api.OK
					}
					if err := count.CheckProof(g, more, other); err != want || err == api.OK && more >= fewest {
						t.Fatal(g, more, other, err, want)
					}
					seen[want]++
				}
			}
		}
	}
	if min(seen[api.OK], seen[api.ErrProof]) < 500 || longest < 20 {
		t.Error(seen, longest)
	}
}
