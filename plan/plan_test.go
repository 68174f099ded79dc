package plan_test

import (
	"slices"
	"testing"

	"bonehouse/api"
	"bonehouse/plan"
)

// P7.1: Decided, After and Useful of the chapter's problem.
func TestWorldExamples(t *testing.T) {
	p := example()
	for i, x := range []struct {
		worlds []int
		is, so bool
		useful []int
	}{{nil, true, false, nil}, {[]int{0}, true, true, nil}, {[]int{3}, true, false, nil}, {[]int{0, 1}, true, true, []int{0}}, {[]int{2, 3}, true, false, []int{1, 2}}, {[]int{1, 2}, false, false, []int{0, 1}}, {[]int{0, 3}, false, false, []int{0, 2}}, {[]int{0, 1, 2, 3}, false, false, []int{0, 1, 2}}} {
		if is, so, err := plan.Decided(p, setOf(x.worlds)); is != x.is || so != x.so || err != api.OK {
			t.Error(i, is, so, err)
		}
		if l, err := plan.Useful(p, setOf(x.worlds)); !slices.Equal(l, x.useful) || err != api.OK {
			t.Error(i, l, err)
		}
	}
	for i, x := range []struct {
		worlds     []int
		n, outcome int
		want       []int
	}{{[]int{0, 1, 2, 3}, 0, 2, []int{2, 3}}, {[]int{0, 1, 2, 3}, 1, 0, []int{0, 1, 3}}, {[]int{1, 2}, 1, 0, []int{1}}, {[]int{1, 2}, 2, 1, nil}, {nil, 0, 0, nil}, {[]int{0, 1, 2, 3}, 0, 7, nil}} {
		if s, err := plan.After(p, setOf(x.worlds), x.n, x.outcome); s != setOf(x.want) || err != api.OK {
			t.Error(i, s, err)
		}
	}
}

// P7.1: Decided, After and Useful of all sets of worlds, held against lists.
func TestWorlds(t *testing.T) {
	for _, p := range slices.Concat(few(1, 300), large(2, 20)) {
		kept := copiedProblem(p)
		all := sets(len(p.Claim))
		for k := 0; k < len(all); k += 1 + len(all)/300 {
			l := all[k]
			is, so, err := plan.Decided(p, setOf(l))
			if want := isDecided(p, l); is != want || so != (want && len(l) > 0 && p.Claim[l[0]]) || err != api.OK {
				t.Fatal(p, l, is, so, err)
			}
			var useful []int
			for n := range p.Trials {
				if len(outcomesOf(p, l, n)) > 1 {
					useful = append(useful, n)
				}
				for outcome := range 8 {
					if s, err := plan.After(p, setOf(l), n, outcome); s != setOf(left(p, l, n, outcome)) || err != api.OK {
						t.Fatal(p, l, n, outcome, s, err)
					}
				}
			}
			if got, err := plan.Useful(p, setOf(l)); !slices.Equal(got, useful) || err != api.OK {
				t.Fatal(p, l, got, useful, err)
			}
		}
		if plan.Check(p) != api.OK || !sameProblem(p, kept) {
			t.Fatal(p)
		}
	}
}

// P7.2: twins of the chapter's problem with some of its trials.
func TestTwinExamples(t *testing.T) {
	all := example().Trials
	for i, x := range []struct {
		claim  []bool
		trials []api.Trial
		want   [2]int
		are    bool
	}{
		{claim("++--"), nil, [2]int{0, 2}, true}, {claim("++--"), all, [2]int{}, false}, {claim("++--"), all[:1], [2]int{}, false}, {claim("++--"), all[1:], [2]int{}, false}, {claim("++--"), all[1:2], [2]int{0, 3}, true}, {claim("++--"), all[2:], [2]int{0, 2}, true},
		{claim("++++"), nil, [2]int{}, false}, {claim("-"), nil, [2]int{}, false}, {claim("-+"), nil, [2]int{0, 1}, true}, {claim("---+"), nil, [2]int{0, 3}, true},
		{claim("+-+-"), []api.Trial{trial(1, 0, 1, 1, 2)}, [2]int{1, 2}, true}, {claim("+-+-"), []api.Trial{trial(1, 0, 1, 2, 2)}, [2]int{2, 3}, true}, {claim("-+-+"), []api.Trial{trial(1, 7, 0, 0, 7)}, [2]int{0, 3}, true}, {claim("-++-"), []api.Trial{trial(0, 0, 0, 1, 1)}, [2]int{0, 1}, true},
	} {
		p := api.Problem{Claim: x.claim, Trials: x.trials}
		if pair, are, err := plan.Twins(p); pair != x.want || are != x.are || err != api.OK {
			t.Error(i, pair, are, err)
		}
		if is, err := plan.Possible(p); is == x.are || err != api.OK {
			t.Error(i, is, err)
		}
	}
}

// P7.2: the first of all pairs that are twins.
func TestTwins(t *testing.T) {
	seen := map[bool]int{}
	for _, p := range slices.Concat(few(3, 2000), large(4, 300)) {
		var want [2]int
		are := false
		for b := range p.Claim {
			for a := range b {
				pair := [2]int{a, b}
				if p.Claim[a] != p.Claim[b] && !isTold(p, numbers(len(p.Trials)), a, b) && (!are || slices.Compare(pair[:], want[:]) < 0) {
					want, are = pair, true
				}
			}
		}
		if pair, is, err := plan.Twins(p); pair != want || is != are || err != api.OK {
			t.Fatal(p, pair, is, err)
		}
		if is, err := plan.Possible(p); is == are || err != api.OK {
			t.Fatal(p, is, err)
		}
		seen[are]++
	}
	if min(seen[false], seen[true]) < 500 {
		t.Error(seen)
	}
}

// P7.12: there are twins exactly if the claim is not decided in what is left after the outcomes that all trials have in some world.
func TestTwinsByOutcomes(t *testing.T) {
	for _, p := range slices.Concat(few(5, 500), large(6, 60)) {
		undecided := false
		for world := range p.Claim {
			rest := setOf(numbers(len(p.Claim)))
			for n, x := range p.Trials {
				var err api.Errno
				if rest, err = plan.After(p, rest, n, x.Outcomes[world]); err != api.OK {
					t.Fatal(p, world, n, err)
				}
			}
			is, _, err := plan.Decided(p, rest)
			if err != api.OK {
				t.Fatal(p, world, err)
			}
			undecided = undecided || !is
		}
		if _, are, err := plan.Twins(p); are != undecided || err != api.OK {
			t.Fatal(p, are, err)
		}
	}
}
