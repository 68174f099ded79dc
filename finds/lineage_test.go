package finds_test

import (
	"slices"
	"testing"

	"bonehouse/api"
	"bonehouse/finds"
)

// P2.4: the chapter's example, and finds that were joined, split and joined anew.
func TestLineageExamples(t *testing.T) {
	r, again := history(t), twice(t)
	for i, x := range []struct {
		r       api.Register
		no, day int
		parts   [2]int
		is      bool
		whole   int
		leaves  []int
	}{
		{r, 1, 15, [2]int{}, false, 1, []int{1}}, {r, 1, 25, [2]int{}, false, 9, []int{1}}, {r, 2, 30, [2]int{}, false, 2, []int{2}},
		{r, 9, 20, [2]int{1, 2}, true, 9, []int{1, 2}}, {r, 9, 40, [2]int{1, 2}, true, 9, []int{1, 2}},
		{again, 1, 2, [2]int{}, false, 4, []int{1}}, {again, 1, 3, [2]int{}, false, 5, []int{1}}, {again, 4, 3, [2]int{1, 2}, true, 5, []int{1, 2}},
		{again, 5, 3, [2]int{3, 4}, true, 5, []int{1, 2, 3}}, {again, 1, 5, [2]int{}, false, 4, []int{1}}, {again, 1, 7, [2]int{}, false, 1, []int{1}},
		{again, 1, 8, [2]int{}, false, 6, []int{1}}, {again, 6, 8, [2]int{2, 1}, true, 6, []int{1, 2}},
		{again, 1, 9, [2]int{}, false, 6, []int{1}}, {again, 5, 9, [2]int{3, 4}, true, 5, []int{1, 2, 3}}, {again, 4, 9, [2]int{1, 2}, true, 4, []int{1, 2}},
	} {
		if p, is, err := finds.Parts(x.r, x.no, x.day); p != x.parts || is != x.is || err != api.OK {
			t.Error(i, p, is, err)
		}
		if w, err := finds.Whole(x.r, x.no, x.day); w != x.whole || err != api.OK {
			t.Error(i, w, err)
		}
		if l, err := finds.Leaves(x.r, x.no, x.day); !slices.Equal(l, x.leaves) || err != api.OK {
			t.Error(i, l, err)
		}
	}
}

// P2.5: History and Touched of these.
func TestHistories(t *testing.T) {
	again := twice(t)
	for i, x := range []struct {
		no, day int
		want    []int
	}{
		{1, 0, []int{0}}, {1, 6, []int{0, 3}}, {1, 9, []int{0, 3, 9, 10}}, {3, 9, []int{2, 5, 12}},
		{4, 3, []int{0, 1, 3, 4, 5}}, {4, 9, []int{0, 1, 3, 4, 5, 8, 9, 10}}, {5, 4, []int{0, 1, 2, 3, 4, 5, 6}}, {6, 9, []int{0, 1, 3, 9, 10, 11}},
	} {
		if l, err := finds.History(again, x.no, x.day); !slices.Equal(l, x.want) || err != api.OK {
			t.Error(i, l, err)
		}
	}
	for event, want := range [][]int{{1}, {2}, {3}, {1, 2, 4}, {1, 2, 4}, {1, 2, 3, 4, 5}, {1, 2, 3, 4, 5}, {1, 2, 3, 4, 5}, {1, 2, 4, 5}, {1, 4, 5}, {1, 2, 4, 5, 6}, {1, 2, 6}, {3, 5}} {
		if l, err := finds.Touched(again, event); !slices.Equal(l, want) || err != api.OK {
			t.Error(event, l, err)
		}
	}
}

// P2.5: Changed, in both directions.
func TestChangedExamples(t *testing.T) {
	r, again := history(t), twice(t)
	same := register(t, enter(0, first()), date(1, 1, 20, 40), measure(2, 1, api.Measure{Kind: 5, Value: 100, Error: 4}), measure(3, 1, api.Measure{Kind: 5, Value: 100, Error: 3}))
	for i, x := range []struct {
		r             api.Register
		before, after int
		want          []int
	}{
		{r, 15, 20, []int{1, 2, 9}}, {r, 10, 30, []int{9}}, {r, 0, 10, []int{1, 2}}, {r, 10, 19, nil}, {r, 20, 30, []int{1, 2, 9}}, {r, 30, api.MaxDay, nil}, {r, 20, 20, nil},
		{again, 2, 3, []int{1, 2, 3, 4, 5}}, {again, 3, 4, []int{5}}, {again, 4, 5, []int{1, 2, 3, 4, 5}}, {again, 5, 6, []int{1, 2, 4}}, {again, 6, 7, []int{1}},
		{again, 7, 8, []int{1, 2, 6}}, {again, 8, 9, []int{3, 6}}, {again, 1, 6, []int{4, 5}}, {again, 0, 0, nil},
		{same, 0, 1, nil}, {same, 1, 2, nil}, {same, 2, 3, []int{1}}, // what is entered may say what was known
	} {
		if l, err := finds.Changed(x.r, x.before, x.after); !slices.Equal(l, x.want) || err != api.OK {
			t.Error(i, l, err)
		}
		if l, err := finds.Changed(x.r, x.after, x.before); !slices.Equal(l, x.want) || err != api.OK {
			t.Error(i, l, err)
		}
	}
}

// P2.4, P2.5: Parts, Whole, Leaves and History, by another way to get there.
func TestLineageOfRegisters(t *testing.T) {
	deepest := 0
	for i, r := range registers(t, allKinds()...) {
		for _, day := range days(r) {
			l := known(r, day)
			for no := range 40 {
				if !isThere(l, no) {
					continue
				}
				var parts [2]int
				j := made(l, no)
				if j >= 0 {
					parts = [2]int{l[j].Find, l[j].Other}
				}
				if p, is, err := finds.Parts(r, no, day); p != parts || is != (j >= 0) || err != api.OK {
					t.Fatal(i, day, no, p, is, err)
				}
				if w, err := finds.Whole(r, no, day); w != whole(l, no) || err != api.OK {
					t.Fatal(i, day, no, w, err)
				}
				if leaf, err := finds.Leaves(r, no, day); !slices.Equal(leaf, leaves(l, no)) || err != api.OK {
					t.Fatal(i, day, no, leaf, err)
				}
				var events []int
				for _, e := range l {
					if slices.ContainsFunc(append(partsOf(l, no), no), func(part int) bool { return isAbout(e, part) }) {
						events = append(events, e.No)
					}
				}
				if h, err := finds.History(r, no, day); !slices.Equal(h, events) || err != api.OK {
					t.Fatal(i, day, no, h, err)
				}
				deepest = max(deepest, len(partsOf(l, no)))
			}
		}
	}
	if deepest < 6 {
		t.Error("too few parts:", deepest)
	}
}

// P2.5: Touched, by another way to get there.
func TestTouched(t *testing.T) {
	for i, r := range registers(t, allKinds()...) {
		for event := range r.Events {
			l := r.Events[:event+1]
			var want []int
			for no := range 40 {
				if isThere(l, no) && touches(l, no) {
					want = append(want, no)
				}
			}
			if got, err := finds.Touched(r, event); !slices.Equal(got, want) || err != api.OK {
				t.Fatal(i, event, got, want, err)
			}
		}
	}
}

// P2.5, P2.8: Changed, by another way to get there, and only by what touches a find.
func TestChanged(t *testing.T) {
	for i, r := range registers(t, allKinds()...) {
		l := days(r)
		for j, before := range l {
			for _, after := range []int{l[(j+1)%len(l)], l[(7*j+3)%len(l)]} {
				a, b := known(r, min(before, after)), known(r, max(before, after))
				var touched []int
				for event := len(a); event < len(b); event++ {
					more, _ := finds.Touched(r, event)
					touched = append(touched, more...)
				}
				var want []int
				for no := range 40 {
					if isThere(b, no) && (!isThere(a, no) || !same(state(a, no), state(b, no)) || whole(a, no) != whole(b, no) || stands(a, no) != stands(b, no)) {
						want = append(want, no)
					}
					if isThere(b, no) && !slices.Contains(touched, no) && !alike(r, r, no, before, after) {
						t.Fatal(i, before, after, no)
					}
				}
				got, err := finds.Changed(r, before, after)
				if !slices.Equal(got, want) || err != api.OK {
					t.Fatal(i, before, after, got, want, err)
				}
				for _, no := range got {
					if !slices.Contains(touched, no) {
						t.Fatal(i, before, after, no)
					}
				}
			}
		}
	}
}

// P2.10: each find that was entered is a leaf of its whole, and of one find that stands at most.
func TestNothingIsLost(t *testing.T) {
	for i, r := range registers(t, allKinds()...) {
		for _, day := range days(r) {
			for _, e := range known(r, day) {
				if e.Kind != api.EnterE {
					continue
				}
				w, err := finds.Whole(r, e.Find, day)
				if err != api.OK {
					t.Fatal(i, day, e, err)
				}
				if l, err := finds.Leaves(r, w, day); !slices.Contains(l, e.Find) || err != api.OK {
					t.Fatal(i, day, e, w, l, err)
				}
			}
			standing, _ := finds.Standing(r, day)
			var all []int
			for _, f := range standing {
				if w, err := finds.Whole(r, f.No, day); w != f.No || err != api.OK {
					t.Fatal(i, day, f.No, w, err)
				}
				l, _ := finds.Leaves(r, f.No, day)
				all = append(all, l...)
			}
			slices.Sort(all)
			if len(slices.Compact(slices.Clone(all))) != len(all) {
				t.Fatal(i, day, all)
			}
		}
	}
}

// P2.4, P2.5: a long chain of joins.
func TestDeepJoins(t *testing.T) {
	l := []api.Event{enter(0, small(0, 0))}
	for i := 1; i < 16; i++ {
		l = append(l, enter(i, small(i, i)), join(i, i, max(99+i, 100)*min(i-1, 1), 100+i))
	}
	r := register(t, l...)
	if w, err := finds.Whole(r, 0, api.MaxDay); w != 115 || err != api.OK {
		t.Error(w, err)
	}
	all, err := finds.Leaves(r, 115, api.MaxDay)
	if len(all) != 16 || !slices.IsSorted(all) || err != api.OK {
		t.Error(all, err)
	}
	if h, err := finds.History(r, 115, api.MaxDay); len(h) != 31 || err != api.OK {
		t.Error(h, err)
	}
	if touched, err := finds.Touched(r, 30); len(touched) != 31 || err != api.OK {
		t.Error(touched, err)
	}
	if f, err := finds.At(r, 115, api.MaxDay); f.Zones != (api.Set{1<<16 - 1}) || err != api.OK {
		t.Error(f, err)
	}
}
